// Package trigon: points in the plane, joined to triangles whose circles are empty, exactly: see DOC.md.
package trigon

import (
	"trigon/api"
	"trigon/hull"
	"trigon/join"
	"trigon/mesh"
	"trigon/plane"
	"trigon/text"
)

// Orient tells on which side of two points a third one lies (P3).
func Orient(a api.Point, b api.Point, c api.Point) (int, api.Errno) {
	l := []api.Point{a, b, c}
	if plane.AnyFar(l...) {
		return 0, api.ErrFar
	}
	return plane.AskOf(l).Side(0, 1, 2), api.OK
}

// InCircle tells whether a point lies in the circle through three (P4).
func InCircle(a api.Point, b api.Point, c api.Point, d api.Point) (int, api.Errno) {
	l := []api.Point{a, b, c, d}
	if plane.AnyFar(l...) {
		return 0, api.ErrFar
	}
	return plane.AskOf(l).Circle(0, 1, 2, 3), api.OK
}

// Hull tells the corners around all points (P5).
func Hull(l []api.Point) ([]int, api.Errno) {
	if e := plane.Fault(l); e != api.OK {
		return nil, e
	}
	return hull.Corners(plane.Order(l), plane.AskOf(l)), api.OK
}

// Triangulate joins points to triangles (P6).
func Triangulate(l []api.Point) ([]api.Tri, api.Errno) {
	if e := plane.Fault(l); e != api.OK {
		return nil, e
	}
	return join.Triangles(plane.Order(l), plane.AskOf(l)), api.OK
}

// Mesh is points that come and go, joined to triangles.
type Mesh struct {
	points mesh.Points
}

// NewMesh makes one without points (P7).
func NewMesh() *Mesh { return &Mesh{} }

// Insert adds a point (P7).
func (m *Mesh) Insert(p api.Point) (int, api.Errno) { return m.points.Insert(p) }

// Remove takes a point away (P7).
func (m *Mesh) Remove(n int) api.Errno { return m.points.Remove(n) }

// Triangles tells the triangles (P8).
func (m *Mesh) Triangles() []api.Tri { return m.points.Triangles() }

// Locate tells where a point lies (P9).
func (m *Mesh) Locate(p api.Point) (api.Place, api.Errno) { return m.points.Locate(p) }

// Nearest tells the point that is nearest (P10).
func (m *Mesh) Nearest(p api.Point) (int, api.Errno) { return m.points.Nearest(p) }

// Write writes points and triangles as a text (P11).
func Write(l []api.Point, t []api.Tri) (string, api.Errno) {
	if e := text.Fault(l, t); e != api.OK {
		return "", e
	}
	return text.Write(l, t), api.OK
}

// Read reads them (P12).
func Read(s string) ([]api.Point, []api.Tri, api.Errno, int) {
	l, t, line := text.Read(s)
	if line != 0 {
		return nil, nil, api.ErrForm, line
	}
	return l, t, api.OK, 0
}

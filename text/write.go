// Package text: points and triangles as lines of numbers.
package text

import (
	"slices"
	"strconv"

	"trigon/api"
	"trigon/plane"
)

// Fault tells why points and triangles have no text: ErrMany, ErrFar or ErrNone, the first of them that applies.
func Fault(l []api.Point, t []api.Tri) api.Errno {
	if e := plane.LimitFault(l); e != api.OK {
		return e
	}
	if slices.ContainsFunc(t, func(c api.Tri) bool { return !allPlaces(c, len(l)) }) {
		return api.ErrNone
	}
	return api.OK
}

func allPlaces(c api.Tri, n int) bool {
	return min(c[0], c[1], c[2]) >= 0 && max(c[0], c[1], c[2]) < n
}

// Write gives the text of points and triangles that have one.
func Write(l []api.Point, t []api.Tri) string {
	s := appendLine(nil, len(l))
	for _, p := range l {
		s = appendLine(s, p.X, p.Y)
	}
	s = appendLine(s, len(t))
	for _, c := range t {
		s = appendLine(s, c[0], c[1], c[2])
	}
	return string(s)
}

func appendLine(s []byte, first int, more ...int) []byte {
	s = strconv.AppendInt(s, int64(first), 10)
	for _, n := range more {
		s = append(s, ' ')
		s = strconv.AppendInt(s, int64(n), 10)
	}
	return append(s, '\n')
}

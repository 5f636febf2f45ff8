// Package join: points joined to triangles whose circles are empty, by the points' numbers alone.
package join

import (
	"slices"

	"trigon/api"
	"trigon/plane"
)

// Triangles joins the points of these numbers, none of which is below 0, and no two of which are at one place.
// The order of the numbers decides only where there are several triangulations.
func Triangles(order []int, ask plane.Ask) []api.Tri {
	third := offLine(order, ask)
	if third < 0 {
		return nil
	}
	n := firstNet(order[0], order[1], order[third], ask)
	for i := 2; i < len(order); i++ {
		if i != third {
			n.add(order[i])
		}
	}
	return n.triangles()
}

// offLine gives the first place in order that is not on one line with the first two, or -1.
func offLine(order []int, ask plane.Ask) int {
	for i := 2; i < len(order); i++ {
		if ask.Side(order[0], order[1], order[i]) != 0 {
			return i
		}
	}
	return -1
}

// pair is two points that are joined, in the order in which a triangle goes along them.
type pair [2]int

func (e pair) turned() pair { return pair{e[1], e[0]} }

// away stands for a point beyond the boundary on every side: each two neighbours there make a triangle with it.
// So each pair has a triangle on both sides, and a point that comes outside is no other case than one that comes within.
// It is below all numbers, so that a triangle's least number tells whether it is such a one.
const away = -1

// net is points that are joined to triangles.
type net struct {
	ask plane.Ask
	// at has each triangle three times: by each pair that it goes along.
	at map[pair]api.Tri
	// hole has the pairs of the triangles that make room for a point. It is kept so that each point needs no new one.
	hole map[pair]struct{}
}

// firstNet joins three points that are not on one line.
func firstNet(a, b, c int, ask plane.Ask) *net {
	if ask.Side(a, b, c) < 0 {
		b, c = c, b
	}
	n := &net{ask: ask, at: map[pair]api.Tri{}, hole: map[pair]struct{}{}}
	n.put(a, b, c)
	n.put(b, a, away)
	n.put(c, b, away)
	n.put(a, c, away)
	return n
}

func (n *net) put(a, b, c int) {
	t := fromLeast(api.Tri{a, b, c})
	n.at[pair{a, b}] = t
	n.at[pair{b, c}] = t
	n.at[pair{c, a}] = t
}

func fromLeast(t api.Tri) api.Tri {
	for t[0] > min(t[1], t[2]) {
		t = api.Tri{t[1], t[2], t[0]}
	}
	return t
}

// add joins a further point: the triangles that hold it go, and it is joined to the rim of the hole that they leave.
func (n *net) add(p int) {
	clear(n.hole)
	for e, t := range n.at {
		if n.holds(t, p) {
			n.hole[e] = struct{}{}
		}
	}
	for e := range n.hole {
		delete(n.at, e)
	}
	for e := range n.hole {
		if _, within := n.hole[e.turned()]; !within {
			n.put(e[0], e[1], p)
		}
	}
}

// holds tells whether a triangle can't stay if p comes: p lies within its circle or, if it is one with away,
// beyond the boundary there or between its two neighbours.
func (n *net) holds(t api.Tri, p int) bool {
	if t[0] != away {
		return n.ask.Circle(t[0], t[1], t[2], p) > 0
	}
	e := pair{t[1], t[2]}
	if s := n.ask.Side(e[0], e[1], p); s != 0 {
		return s > 0
	}
	// Of the line through two points, a circle through them has within it just what is between them.
	return n.holds(n.at[e.turned()], p)
}

// triangles tells those without away, in their order.
func (n *net) triangles() []api.Tri {
	var l []api.Tri
	for e, t := range n.at {
		// Of the three pairs by which it is found, each triangle is told at one.
		if t[0] != away && e == (pair{t[0], t[1]}) {
			l = append(l, t)
		}
	}
	slices.SortFunc(l, func(a, b api.Tri) int { return slices.Compare(a[:], b[:]) })
	return l
}

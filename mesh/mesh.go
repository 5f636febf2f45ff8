// Package mesh: points that come and go, and what is asked of them while they are there.
package mesh

import (
	"slices"

	"trigon/api"
	"trigon/join"
	"trigon/plane"
)

// Points are those that are there; the zero value has none.
// Their triangles are not kept, but joined anew when they are asked for: so they hang on where the points are,
// and not on what came and went.
type Points struct {
	// at has where the points are, numbers at the same places their numbers. Both are in the order in which the points came:
	// the numbers rise, and of several places the least has the least number.
	at      []api.Point
	numbers []int
	// next is one more than the last number that was given; a number whose point went does not come again.
	next int
}

// Insert adds a point and tells its number (P7).
func (m *Points) Insert(p api.Point) (int, api.Errno) {
	switch {
	case plane.AnyFar(p):
		return 0, api.ErrFar
	case slices.Contains(m.at, p):
		return 0, api.ErrTwice
	case len(m.at) >= api.MaxPoints:
		return 0, api.ErrMany
	}
	n := m.next
	m.at, m.numbers, m.next = append(m.at, p), append(m.numbers, n), n+1
	return n, api.OK
}

// Remove takes the point of a number away (P7).
func (m *Points) Remove(n int) api.Errno {
	i, found := slices.BinarySearch(m.numbers, n)
	if !found {
		return api.ErrNone
	}
	m.at, m.numbers = slices.Delete(m.at, i, i+1), slices.Delete(m.numbers, i, i+1)
	return api.OK
}

// Triangles joins the points that are there (P8).
func (m *Points) Triangles() []api.Tri {
	l := m.triangles()
	// As the numbers rise with the places, the triangles and their list stay in order.
	for i := range l {
		for k, place := range l[i] {
			l[i][k] = m.numbers[place]
		}
	}
	return l
}

// triangles has places where Triangles has numbers.
func (m *Points) triangles() []api.Tri {
	return join.Triangles(plane.Order(m.at), plane.AskOf(m.at))
}

// Nearest tells the number of the point at the least distance from p (P10).
func (m *Points) Nearest(p api.Point) (int, api.Errno) {
	switch {
	case plane.AnyFar(p):
		return 0, api.ErrFar
	case len(m.at) == 0:
		return 0, api.ErrNone
	}
	best := 0
	for i, q := range m.at {
		if plane.Apart(p, q) < plane.Apart(p, m.at[best]) {
			best = i
		}
	}
	return m.numbers[best], api.OK
}

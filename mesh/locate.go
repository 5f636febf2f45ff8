package mesh

import (
	"slices"

	"trigon/api"
	"trigon/plane"
)

// Locate tells where p lies (P9).
func (m *Points) Locate(p api.Point) (api.Place, api.Errno) {
	if plane.AnyFar(p) {
		return api.Place{}, api.ErrFar
	}
	return m.placeOf(m.holders(p)), api.OK
}

// placeOf tells a place by the points that hold it, given by their own places.
func (m *Points) placeOf(holders []int) api.Place {
	kinds := [...]int{api.Outside, api.OnPoint, api.OnEdge, api.Inside}
	place := api.Place{Kind: kinds[len(holders)], Of: [3]int{-1, -1, -1}}
	for i, n := range holders {
		place.Of[i] = m.numbers[n]
	}
	return place
}

// holders gives the places of the points by which it is told where p lies: of the one that it lies on, of the two
// joined ones between which it lies, or of the three of a triangle; none, if it lies outside.
func (m *Points) holders(p api.Point) []int {
	if i := slices.Index(m.at, p); i >= 0 {
		return []int{i}
	}
	// To be asked of by a number, as the points are, p is one more of them.
	l, n := append(slices.Clone(m.at), p), len(m.at)
	t := m.triangles()
	if len(t) == 0 {
		return lineHolders(plane.Order(l), n, plane.AskOf(l))
	}
	return triangleHolders(t, n, plane.AskOf(l))
}

// lineHolders gives the two neighbours on a line between which p lies. In order stand all points of the line, and p,
// which is none of them, by X and then by Y: so on the line they stand one behind the other.
func lineHolders(order []int, p int, ask plane.Ask) []int {
	i := slices.Index(order, p)
	if i == 0 || i == len(order)-1 {
		return nil
	}
	a, b := order[i-1], order[i+1]
	if ask.Side(a, b, p) != 0 {
		return nil
	}
	return lesserFirst(a, b)
}

// triangleHolders gives the corners that hold p, which is none of them, in the first triangle that has such.
func triangleHolders(l []api.Tri, p int, ask plane.Ask) []int {
	for _, t := range l {
		if held := cornersAround(t, p, ask); len(held) > 0 {
			return held
		}
	}
	return nil
}

// cornersAround gives all corners of a triangle, if p lies in it, the two between which p lies, or none.
func cornersAround(t api.Tri, p int, ask plane.Ask) []int {
	held := t[:]
	for k := range t {
		a, b := t[k], t[(k+1)%3]
		switch ask.Side(a, b, p) {
		case -1:
			return nil
		case 0:
			// If p is right of neither of the other sides, it is between these two.
			held = lesserFirst(a, b)
		}
	}
	return held
}

func lesserFirst(a, b int) []int {
	return []int{min(a, b), max(a, b)}
}

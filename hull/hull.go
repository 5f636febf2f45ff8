// Package hull: the corners around points.
package hull

import (
	"slices"

	"trigon/plane"
)

// Corners gives the hull's corners, counterclockwise, from the first of order on.
// In order stand the numbers of all points, by X and then by Y; no two points are the same.
func Corners(order []int, ask plane.Ask) []int {
	if len(order) < 2 {
		return slices.Clone(order)
	}
	back := slices.Clone(order)
	slices.Reverse(back)
	lower, upper := chain(order, ask), chain(back, ask)
	// Each chain ends where the other one begins.
	return append(lower[:len(lower)-1], upper[:len(upper)-1]...)
}

// chain goes from the first to the last of order and turns left at each number that it keeps between them.
func chain(order []int, ask plane.Ask) []int {
	var kept []int
	for _, n := range order {
		for len(kept) >= 2 && ask.Side(kept[len(kept)-2], kept[len(kept)-1], n) <= 0 {
			kept = kept[:len(kept)-1]
		}
		kept = append(kept, n)
	}
	return kept
}

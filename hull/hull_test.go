package hull_test

import (
	"slices"
	"testing"

	"trigon/api"
	"trigon/hull"
	"trigon/plane"
)

// parabola: asks as if each number n were the point (n, n n), which no list could hold.
func parabola() plane.Ask {
	return plane.Ask{Side: func(a, b, c int) int {
		n := (b-a)*(c*c-a*a) - (b*b-a*a)*(c-a)
		return max(-1, min(1, n))
	}}
}

func TestCornersAsksByNumbersAlone(t *testing.T) {
	order := []int{-300, -7, 0, 2, 5, 1000}
	if got := hull.Corners(order, parabola()); !slices.Equal(got, order) {
		t.Errorf("corners of a parabola: %v, want %v", got, order)
	}
}

func TestCornersOfFewAsksNothing(t *testing.T) {
	for _, order := range [][]int{nil, {}, {4}, {4, 2}} {
		if got := hull.Corners(order, plane.Ask{}); !slices.Equal(got, order) {
			t.Errorf("corners of %v: %v", order, got)
		}
	}
}

func TestCornersLeavesOrderAlone(t *testing.T) {
	l := []api.Point{{X: 0, Y: 0}, {X: 1, Y: 1}, {X: 2, Y: 0}, {X: 2, Y: 2}}
	order := []int{0, 1, 2, 3, 77}
	got := hull.Corners(order[:4], plane.AskOf(l))
	if !slices.Equal(got, []int{0, 2, 3}) {
		t.Errorf("corners: %v", got)
	}
	got = got[:cap(got)]
	for i := range got {
		got[i] = -1
	}
	if !slices.Equal(order, []int{0, 1, 2, 3, 77}) {
		t.Errorf("order is now %v", order)
	}
}

func TestCornersOfOneIsNewMemory(t *testing.T) {
	order := []int{9}
	hull.Corners(order, plane.Ask{})[0] = -1
	if order[0] != 9 {
		t.Errorf("order is now %v", order)
	}
}

package mesh

import (
	"slices"
	"testing"

	"trigon/api"
	"trigon/plane"
)

// parabola: asks as if each number n were the point (n, n n), which no list could hold.
func parabola() plane.Ask {
	return plane.Ask{Side: func(a, b, c int) int {
		return max(-1, min(1, (b-a)*(c-a)*(c-b)))
	}}
}

// line: asks as if all numbers were on one line, but for off.
func line(off int) plane.Ask {
	return plane.Ask{Side: func(a, b, c int) int {
		if a == off || b == off || c == off {
			return 1
		}
		return 0
	}}
}

func TestLineHoldersAsksByNumbersAlone(t *testing.T) {
	order := []int{700, 4, 9000, 5, 31}
	for _, c := range []struct {
		p, off int
		want   []int
	}{
		{700, -1, nil}, {31, -1, nil},
		{4, -1, []int{700, 9000}}, {9000, -1, []int{4, 5}}, {5, -1, []int{31, 9000}},
		{4, 4, nil}, {9000, 9000, nil},
	} {
		if got := lineHolders(order, c.p, line(c.off)); !slices.Equal(got, c.want) {
			t.Errorf("holders of %d in %v, off the line is %d: %v, want %v", c.p, order, c.off, got, c.want)
		}
	}
}

func TestLineHoldersOfFewAsksNothing(t *testing.T) {
	for _, order := range [][]int{{7}, {7, 3}, {3, 7}} {
		if got := lineHolders(order, 7, plane.Ask{}); len(got) != 0 {
			t.Errorf("holders of 7 in %v: %v", order, got)
		}
	}
}

// Of a parabola's points none is held by others.
func TestTriangleHoldersAsksByNumbersAlone(t *testing.T) {
	l := []api.Tri{{4, 11, 1000}, {4, 1000, 4001}}
	for _, p := range []int{-50, 5, 90, 3000, 9000} {
		if got := triangleHolders(l, p, parabola()); len(got) != 0 {
			t.Errorf("holders of %d in %v: %v", p, l, got)
		}
	}
}

func TestCornersAround(t *testing.T) {
	at := []api.Point{{X: 0, Y: 4}, {X: 4, Y: 0}, {X: 0, Y: 0}}
	for _, c := range []struct {
		p    api.Point
		want []int
	}{
		{api.Point{X: 1, Y: 1}, []int{0, 2, 1}},
		{api.Point{X: 2, Y: 2}, []int{0, 1}},
		{api.Point{X: 0, Y: 3}, []int{0, 2}},
		{api.Point{X: 3, Y: 0}, []int{1, 2}},
		{api.Point{X: 3, Y: 3}, nil},
		{api.Point{X: 5, Y: -1}, nil},
		{api.Point{X: 5, Y: 0}, nil},
		{api.Point{X: 0, Y: -1}, nil},
	} {
		ask := plane.AskOf(append(slices.Clone(at), c.p))
		if got := cornersAround(api.Tri{0, 2, 1}, 3, ask); !slices.Equal(got, c.want) {
			t.Errorf("corners around %v: %v, want %v", c.p, got, c.want)
		}
	}
}

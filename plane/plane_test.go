package plane_test

import (
	"math"
	"slices"
	"testing"

	"trigon/api"
	"trigon/plane"
)

func TestAskOfTakesPlacesInTheList(t *testing.T) {
	l := []api.Point{{X: 9, Y: 9}, {X: 0, Y: 4}, {X: 1, Y: 1}, {X: 4, Y: 0}, {X: 0, Y: 0}}
	ask := plane.AskOf(l)
	if got := ask.Side(4, 3, 1); got != 1 {
		t.Errorf("side: %d", got)
	}
	if got := ask.Side(3, 4, 1); got != -1 {
		t.Errorf("side, turned about: %d", got)
	}
	for _, abc := range [][3]int{{4, 3, 1}, {3, 4, 1}} {
		if got := ask.Circle(abc[0], abc[1], abc[2], 2); got != 1 {
			t.Errorf("circle %v, within: %d", abc, got)
		}
		if got := ask.Circle(abc[0], abc[1], abc[2], 0); got != -1 {
			t.Errorf("circle %v, outside: %d", abc, got)
		}
	}
}

func TestAnyFar(t *testing.T) {
	for _, c := range []struct {
		n   int
		far bool
	}{
		{0, false}, {8000, false}, {-8000, false}, {8001, true}, {-8001, true},
		{math.MaxInt, true}, {math.MinInt, true}, {math.MinInt + 1, true},
	} {
		for _, p := range []api.Point{{X: c.n}, {Y: c.n}} {
			if got := plane.AnyFar(api.Point{}, p, api.Point{}); got != c.far {
				t.Errorf("AnyFar with %v: %t", p, got)
			}
		}
	}
	if plane.AnyFar() {
		t.Error("AnyFar of none")
	}
}

func TestFaultTellsTheFirstThatApplies(t *testing.T) {
	same := make([]api.Point, api.MaxPoints)
	far := api.Point{X: api.MaxCoord + 1}
	for _, c := range []struct {
		l    []api.Point
		want api.Errno
	}{
		{nil, api.OK},
		{[]api.Point{{X: 1}, {Y: 1}}, api.OK},
		{same, api.ErrTwice},
		{append(slices.Clone(same[1:]), far), api.ErrFar},
		{append(slices.Clone(same), far), api.ErrMany},
		{[]api.Point{far}, api.ErrFar},
	} {
		if got := plane.Fault(c.l); got != c.want {
			t.Errorf("Fault(%v) = %d, want %d", c.l, got, c.want)
		}
	}
}

func TestLimitFaultTakesTheSamePoints(t *testing.T) {
	same := make([]api.Point, api.MaxPoints)
	far := api.Point{Y: -api.MaxCoord - 1}
	for _, c := range []struct {
		l    []api.Point
		want api.Errno
	}{
		{nil, api.OK}, {same, api.OK}, {append(slices.Clone(same[1:]), far), api.ErrFar}, {append(slices.Clone(same), far), api.ErrMany},
	} {
		if got := plane.LimitFault(c.l); got != c.want {
			t.Errorf("LimitFault(%v) = %d, want %d", c.l, got, c.want)
		}
	}
}

func TestOrder(t *testing.T) {
	l := []api.Point{{X: 1, Y: 0}, {X: 0, Y: 5}, {X: -3, Y: 9}, {X: 0, Y: -5}, {X: 0, Y: 0}}
	if got := plane.Order(l); !slices.Equal(got, []int{2, 3, 4, 1, 0}) {
		t.Errorf("order: %v", got)
	}
}

func TestApart(t *testing.T) {
	for _, c := range []struct {
		a, b api.Point
		want int64
	}{
		{api.Point{X: 3, Y: -4}, api.Point{X: 3, Y: -4}, 0},
		{api.Point{}, api.Point{X: 3, Y: -4}, 25},
		{api.Point{X: -1, Y: 2}, api.Point{X: 1, Y: 1}, 5},
		{api.Point{X: -8000, Y: -8000}, api.Point{X: 8000, Y: 8000}, 512000000},
	} {
		if got, back := plane.Apart(c.a, c.b), plane.Apart(c.b, c.a); got != c.want || back != c.want {
			t.Errorf("Apart(%v, %v) = %d, turned about %d, want %d", c.a, c.b, got, back, c.want)
		}
	}
}

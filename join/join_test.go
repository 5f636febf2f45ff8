package join_test

import (
	"math/rand"
	"slices"
	"testing"

	"trigon/api"
	"trigon/join"
	"trigon/plane"
)

func sign(n int) int { return max(-1, min(1, n)) }

// parabola: asks as if each number n were the point (n, n n), which no list could hold.
func parabola() plane.Ask {
	return plane.Ask{
		Side: func(a, b, c int) int { return sign((b - a) * (c - a) * (c - b)) },
		// A circle meets the parabola where four numbers are that add up to 0.
		Circle: func(a, b, c, d int) int { return -sign((d - a) * (d - b) * (d - c) * (a + b + c + d)) },
	}
}

// onlyOf: asks as ask does, and tells if a number is asked that is not among these.
func onlyOf(t *testing.T, numbers []int, ask plane.Ask) plane.Ask {
	check := func(asked ...int) {
		for _, n := range asked {
			if !slices.Contains(numbers, n) {
				t.Fatalf("asked of %d, which is none of %v", n, numbers)
			}
		}
	}
	return plane.Ask{
		Side:   func(a, b, c int) int { check(a, b, c); return ask.Side(a, b, c) },
		Circle: func(a, b, c, d int) int { check(a, b, c, d); return ask.Circle(a, b, c, d) },
	}
}

func TestTrianglesAsksByNumbersAlone(t *testing.T) {
	numbers := []int{4, 5, 11, 12, 90, 1000, 4001, 9000}
	var want []api.Tri
	for i := 2; i < len(numbers); i++ {
		want = append(want, api.Tri{4, numbers[i-1], numbers[i]})
	}
	ask := onlyOf(t, slices.Clone(numbers), parabola())
	r := rand.New(rand.NewSource(1))
	for range 200 {
		if got := join.Triangles(numbers, ask); !slices.Equal(got, want) {
			t.Fatalf("triangles of a parabola by %v: %v, want %v", numbers, got, want)
		}
		r.Shuffle(len(numbers), func(i, j int) { numbers[i], numbers[j] = numbers[j], numbers[i] })
	}
}

func TestTrianglesOfFewAsksNothing(t *testing.T) {
	for _, order := range [][]int{nil, {}, {4}, {4, 2}} {
		if got := join.Triangles(order, plane.Ask{}); len(got) != 0 {
			t.Errorf("triangles of %v: %v", order, got)
		}
	}
}

func TestTrianglesOnOneLine(t *testing.T) {
	line := plane.Ask{
		Side:   func(a, b, c int) int { return 0 },
		Circle: func(a, b, c, d int) int { return 0 },
	}
	if got := join.Triangles([]int{9, 1, 0, 3, 7}, line); len(got) != 0 {
		t.Errorf("triangles: %v", got)
	}
}

// Where no four are on one circle there is one triangulation, whether a point comes within, outside or on an edge.
func TestTrianglesInAnyOrder(t *testing.T) {
	l := []api.Point{{X: 0, Y: 0}, {X: 3, Y: 0}, {X: 10, Y: 0}, {X: 1, Y: 11}, {X: 2, Y: 4}, {X: 5, Y: 3}, {X: 9, Y: 20}}
	want := []api.Tri{{0, 1, 4}, {0, 4, 3}, {1, 2, 5}, {1, 5, 4}, {2, 6, 5}, {3, 4, 5}, {3, 5, 6}}
	order := []int{0, 1, 2, 3, 4, 5, 6}
	r := rand.New(rand.NewSource(2))
	for range 500 {
		if got := join.Triangles(order, plane.AskOf(l)); !slices.Equal(got, want) {
			t.Fatalf("triangles of %v by %v: %v, want %v", l, order, got, want)
		}
		r.Shuffle(len(order), func(i, j int) { order[i], order[j] = order[j], order[i] })
	}
}

// area: twice that of a triangle.
func area(l []api.Point, t api.Tri) int {
	a, b, c := l[t[0]], l[t[1]], l[t[2]]
	return (b.X-a.X)*(c.Y-a.Y) - (b.Y-a.Y)*(c.X-a.X)
}

func TestTrianglesOfASquareGridInAnyOrder(t *testing.T) {
	var l []api.Point
	var order []int
	for n := range 25 {
		l = append(l, api.Point{X: n % 5, Y: n / 5})
		order = append(order, n)
	}
	r := rand.New(rand.NewSource(3))
	for range 200 {
		r.Shuffle(len(order), func(i, j int) { order[i], order[j] = order[j], order[i] })
		got := join.Triangles(order, plane.AskOf(l))
		whole := 0
		for _, x := range got {
			// A triangle of the grid whose circle is empty is half a square of it.
			if area(l, x) != 1 {
				t.Fatalf("triangles by %v: %v with %v", order, got, x)
			}
			whole++
		}
		if whole != 32 {
			t.Fatalf("triangles by %v: %v, %d of them", order, got, whole)
		}
		if again := join.Triangles(order, plane.AskOf(l)); !slices.Equal(again, got) {
			t.Fatalf("triangles by %v: %v, and then %v", order, got, again)
		}
	}
}

func TestTrianglesLeavesOrderAlone(t *testing.T) {
	order := []int{5, 2, 9, 4, 77}
	join.Triangles(order[:4], parabola())
	if !slices.Equal(order, []int{5, 2, 9, 4, 77}) {
		t.Errorf("order is now %v", order)
	}
}

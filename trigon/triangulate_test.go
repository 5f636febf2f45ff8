package trigon_test

import (
	"math/rand"
	"slices"
	"testing"

	"trigon/api"
	"trigon/trigon"
)

func onOneLine(l []api.Point) bool {
	for i := 2; i < len(l); i++ {
		if wantSide(l[0], l[1], l[i]) != 0 {
			return false
		}
	}
	return true
}

// boundary: each two neighbours on the hull's boundary, counterclockwise, of points that are not all on one line.
func boundary(l []api.Point) map[[2]int]bool {
	are := func(a, b int) bool {
		for n, p := range l {
			if wantSide(l[a], l[b], p) < 0 || n != a && n != b && between(p, l[a], l[b]) {
				return false
			}
		}
		return a != b
	}
	next := map[[2]int]bool{}
	for a := range l {
		for b := range l {
			if are(a, b) {
				next[[2]int{a, b}] = true
			}
		}
	}
	return next
}

// goneAlong: how often each of two numbers one behind the other is gone along.
func goneAlong(l []api.Tri) map[[2]int]int {
	times := map[[2]int]int{}
	for _, x := range l {
		for k := range x {
			times[[2]int{x[k], x[(k+1)%3]}]++
		}
	}
	return times
}

// wrongTriangle: what the document does not allow in a single triangle.
func wrongTriangle(l []api.Point, x api.Tri) string {
	switch {
	case min(x[0], x[1], x[2]) < 0 || max(x[0], x[1], x[2]) >= len(l):
		return "a number of no point"
	case x[0] >= x[1] || x[0] >= x[2]:
		return "not the least number first"
	case wantSide(l[x[0]], l[x[1]], l[x[2]]) != 1:
		return "not counterclockwise"
	}
	for _, p := range l {
		if wantCircle(l[x[0]], l[x[1]], l[x[2]], p) > 0 {
			return "a point within the circle"
		}
	}
	return ""
}

// wrongEdge: what the document does not allow of how triangles go along two numbers, which are neighbours on the boundary or not.
func wrongEdge(there, back int, neighbours bool) string {
	switch {
	case there > 1:
		return "gone along twice"
	case neighbours && there == 0:
		return "neighbours that are not gone along"
	case !neighbours && there == 1 && back == 0:
		return "not gone along the other way"
	}
	return ""
}

// checkTriangulation holds triangles against the words of the document.
func checkTriangulation(t *testing.T, l []api.Point, got []api.Tri) {
	t.Helper()
	if onOneLine(l) {
		if len(got) != 0 {
			t.Fatalf("P6: triangles of %v, all on one line: %v", l, got)
		}
		return
	}
	for i, x := range got {
		if s := wrongTriangle(l, x); s != "" {
			t.Fatalf("P6: triangles of %v: %v: %v: %s", l, got, x, s)
		}
		if i > 0 && slices.Compare(got[i-1][:], x[:]) >= 0 {
			t.Fatalf("P6: triangles of %v: %v: not rising at %v", l, got, x)
		}
	}
	along, next := goneAlong(got), boundary(l)
	for a := range l {
		for b := range l {
			e, back := [2]int{a, b}, [2]int{b, a}
			if s := wrongEdge(along[e], along[back], next[e]); s != "" {
				t.Fatalf("P6: triangles of %v: %v: %v: %s", l, got, e, s)
			}
		}
	}
	if want := 2*len(l) - 2 - len(next); len(got) != want {
		t.Fatalf("P13: triangles of %v: %v: %d, want %d", l, got, len(got), want)
	}
}

func checkTriangulate(t *testing.T, l []api.Point) {
	t.Helper()
	got, e := trigon.Triangulate(l)
	if e != api.OK {
		t.Fatalf("P6: Triangulate(%v): error %d", l, e)
	}
	checkTriangulation(t, l, got)
}

func TestTriangulateExamples(t *testing.T) {
	for _, c := range []struct {
		l    []api.Point
		want [][]api.Tri
	}{
		{pts(0, 0, 4, 0, 0, 3), [][]api.Tri{{{0, 1, 2}}}},
		{pts(0, 0, 2, 0, 4, 0, 2, 3), [][]api.Tri{{{0, 1, 3}, {1, 2, 3}}}},
		{pts(0, 0, 4, 0, 4, 4, 0, 4), [][]api.Tri{{{0, 1, 2}, {0, 2, 3}}, {{0, 1, 3}, {1, 2, 3}}}},
		{pts(0, 0, 1, 1, 2, 2), [][]api.Tri{nil}},
		{nil, [][]api.Tri{nil}},
		{pts(), [][]api.Tri{nil}},
		{pts(7, -7), [][]api.Tri{nil}},
		{pts(7, -7, 1, 0), [][]api.Tri{nil}},
		{pts(0, 3, 4, 0, 0, 0), [][]api.Tri{{{0, 2, 1}}}},
		{pts(4, 0, 0, 3, 0, 0), [][]api.Tri{{{0, 1, 2}}}},
		// The short way across, though the long one has the lesser numbers.
		{pts(-10, 0, 10, 0, 0, 1, 0, -1), [][]api.Tri{{{0, 3, 2}, {1, 2, 3}}}},
		{pts(0, 1, 0, -1, -10, 0, 10, 0), [][]api.Tri{{{0, 1, 3}, {0, 2, 1}}}},
		{pts(0, 0, 9, 0, 0, 9, 2, 2), [][]api.Tri{{{0, 1, 3}, {0, 3, 2}, {1, 2, 3}}}},
		{pts(-8000, -8000, 8000, -8000, 8000, 8000, -8000, 8000, 0, 0), [][]api.Tri{{{0, 1, 4}, {0, 4, 3}, {1, 2, 4}, {2, 3, 4}}}},
		{pts(-8000, -8000, 8000, -8000, 0, -7999), [][]api.Tri{{{0, 1, 2}}}},
		{pts(-8000, -8000, 8000, 8000, -7999, -7998), [][]api.Tri{{{0, 1, 2}}}},
	} {
		got, e := trigon.Triangulate(c.l)
		isThis := func(want []api.Tri) bool { return slices.Equal(got, want) }
		if !slices.ContainsFunc(c.want, isThis) || e != api.OK {
			t.Errorf("P6: Triangulate(%v) = %v, %d, want one of %v", c.l, got, e, c.want)
		}
		checkTriangulate(t, c.l)
	}
}

func TestTriangulateOfAllNearPoints(t *testing.T) {
	all := grid(1)
	r := rand.New(rand.NewSource(20))
	for which := range 1 << len(all) {
		var l []api.Point
		for i, p := range all {
			if which>>i&1 == 1 {
				l = append(l, p)
			}
		}
		checkTriangulate(t, l)
		r.Shuffle(len(l), func(i, j int) { l[i], l[j] = l[j], l[i] })
		checkTriangulate(t, l)
	}
}

func TestTriangulateOfSomePoints(t *testing.T) {
	r := rand.New(rand.NewSource(21))
	for range 400 {
		checkTriangulate(t, differentPoints(r, r.Intn(18), []int{1, 2, 5, 100, 8000}[r.Intn(5)]))
	}
}

func TestTriangulateOfManyPoints(t *testing.T) {
	r := rand.New(rand.NewSource(22))
	for _, size := range []int{4, 8, 100, 8000, 8000} {
		var l []api.Point
		for len(l) < api.MaxPoints {
			if p := somePoint(r, size); !slices.Contains(l, p) {
				l = append(l, p)
			}
		}
		checkTriangulate(t, l)
	}
	checkTriangulate(t, manyRound())
}

func TestTriangulateOfSquaresAtTheEdges(t *testing.T) {
	var l []api.Point
	for _, x := range edgeNumbers() {
		for _, y := range edgeNumbers() {
			l = append(l, pt(x, y))
		}
	}
	checkTriangulate(t, l)
}

// onOneCircle: 60 of the whole points that are 7 times 1105 from (0 0).
func onOneCircle() []api.Point {
	var l []api.Point
	for x := -1105; x <= 1105; x++ {
		for y := -1105; y <= 1105; y++ {
			if x*x+y*y == 1105*1105 {
				l = append(l, pt(7*x, 7*y))
			}
		}
	}
	rand.New(rand.NewSource(23)).Shuffle(len(l), func(i, j int) { l[i], l[j] = l[j], l[i] })
	return l[:api.MaxPoints]
}

func TestTriangulateOfPointsOnOneCircle(t *testing.T) {
	l := onOneCircle()
	for n := range l {
		if n < 9 || n%10 == 9 {
			checkTriangulate(t, l[:n+1])
		}
	}
	for _, middle := range pts(0, 0, 1, 0, 7000, 3000, 8000, 8000, -7734, 0) {
		l[30] = middle
		checkTriangulate(t, l)
	}
}

func TestTriangulateOfPointsNearlyOnOneCircle(t *testing.T) {
	r := rand.New(rand.NewSource(24))
	for range 3 {
		l := onOneCircle()[:40]
		for i := range l {
			off := somePoint(r, 1)
			l[i] = pt(l[i].X+off.X, l[i].Y+off.Y)
		}
		checkTriangulate(t, l)
	}
	for _, l := range circlesByAHair() {
		checkTriangulate(t, l)
	}
}

// onOneLineEach calls f with lists of 60 points on one line, each in another way, in no order.
func onOneLineEach(f func(l []api.Point, way api.Point)) {
	r := rand.New(rand.NewSource(10))
	for _, way := range pts(1, 0, 0, 1, 1, 1, 1, -1, 3, 1, 1, -3, 0, -1, -1, 0, 133, 131) {
		var l []api.Point
		for _, f := range r.Perm(api.MaxPoints) {
			l = append(l, pt(f*way.X, f*way.Y))
		}
		f(l, way)
	}
}

func TestTriangulateOfPointsOnOneLine(t *testing.T) {
	onOneLineEach(func(l []api.Point, _ api.Point) {
		if got, e := trigon.Triangulate(l); len(got) != 0 || e != api.OK {
			t.Errorf("P6: Triangulate(%v) = %v, %d, want none, 0", l, got, e)
		}
	})
}

func TestTriangulateOfPointsOnOneLineButOne(t *testing.T) {
	onOneLineEach(func(l []api.Point, way api.Point) {
		for i, n := range []int{0, 1, 30, 59} {
			was := l[n]
			// Beside the line, on either side, near a point of it or far from all.
			l[n] = []api.Point{pt(-1, 2), pt(2, -5), pt(-7000, 6999), pt(40*way.X+1, 40*way.Y+2)}[i]
			checkTriangulate(t, l)
			l[n] = was
		}
	})
}

func TestTriangulateOfTwoLines(t *testing.T) {
	var l []api.Point
	for n := range 30 {
		l = append(l, pt(-8000+n, 8000), pt(8000-2*n, -8000))
	}
	checkTriangulate(t, l)
	for n := range 30 {
		l[2*n], l[2*n+1] = pt(n-15, 0), pt(0, 1+n)
	}
	checkTriangulate(t, l)
}

func TestTriangulateKeepsNothing(t *testing.T) {
	l := pts(0, 0, 9, 0, 0, 9, 2, 2)
	want := []api.Tri{{0, 1, 3}, {0, 3, 2}, {1, 2, 3}}
	got, _ := trigon.Triangulate(l)
	copy(l, pts(2, 2, 0, 0, 9, 0, 0, 9))
	if !slices.Equal(got, want) {
		t.Errorf("P2: the answer turned to %v", got)
	}
	trigon.Triangulate(pts(1, 1, 1, 1))
	want = []api.Tri{{0, 1, 2}, {0, 2, 3}, {0, 3, 1}}
	if got, e := trigon.Triangulate(l); !slices.Equal(got, want) || e != api.OK {
		t.Errorf("P2: Triangulate(%v) behind others = %v, %d, want %v, 0", l, got, e, want)
	}
}

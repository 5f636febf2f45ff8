package trigon_test

import (
	"math/rand"
	"slices"
	"testing"

	"trigon/api"
	"trigon/trigon"
)

// told: a mesh, and what it was told: the points that are there, with their numbers, and how many there ever were.
type told struct {
	m       *trigon.Mesh
	at      []api.Point
	numbers []int
	ever    int
}

func newTold(t *testing.T, l ...api.Point) *told {
	t.Helper()
	w := &told{m: trigon.NewMesh()}
	if w.m == nil {
		t.Fatal("P7: NewMesh() = nil")
	}
	for _, p := range l {
		w.insert(t, p)
	}
	return w
}

func (w *told) insert(t *testing.T, p api.Point) {
	t.Helper()
	if n, e := w.m.Insert(p); n != w.ever || e != api.OK {
		t.Fatalf("P7: Insert(%v) behind %v, %v = %d, %d, want %d, 0", p, w.at, w.numbers, n, e, w.ever)
	}
	w.at, w.numbers, w.ever = append(w.at, p), append(w.numbers, w.ever), w.ever+1
}

func (w *told) remove(t *testing.T, n int) {
	t.Helper()
	if e := w.m.Remove(n); e != api.OK {
		t.Fatalf("P7: Remove(%d) of %v, %v = %d, want 0", n, w.at, w.numbers, e)
	}
	i := slices.Index(w.numbers, n)
	w.at, w.numbers = slices.Delete(w.at, i, i+1), slices.Delete(w.numbers, i, i+1)
}

func (w *told) insertFails(t *testing.T, p api.Point, want api.Errno) {
	t.Helper()
	if n, e := w.m.Insert(p); n != 0 || e != want {
		t.Fatalf("P7: Insert(%v) of %v, %v = %d, %d, want 0, %d", p, w.at, w.numbers, n, e, want)
	}
}

func (w *told) removeFails(t *testing.T, n int) {
	t.Helper()
	if e := w.m.Remove(n); e != api.ErrNone {
		t.Fatalf("P7: Remove(%d) of %v, %v = %d, want %d", n, w.at, w.numbers, e, api.ErrNone)
	}
}

// change: a point comes, or now and then, if there are any, one goes.
func (w *told) change(t *testing.T, r *rand.Rand, size int) {
	t.Helper()
	p := somePoint(r, size)
	switch {
	case len(w.at) == api.MaxPoints || len(w.at) > 0 && r.Intn(3) == 0:
		w.remove(t, w.numbers[r.Intn(len(w.numbers))])
	case slices.Contains(w.at, p):
		w.insertFails(t, p, api.ErrTwice)
	default:
		w.insert(t, p)
	}
}

// places: triangles with places in at where they have numbers, -1 where there is no such number.
func (w *told) places(l []api.Tri) []api.Tri {
	l = slices.Clone(l)
	for i := range l {
		for k := range l[i] {
			l[i][k] = slices.Index(w.numbers, l[i][k])
		}
	}
	return l
}

// joined: each two points that the document calls so, by their numbers, the lesser one first.
func (w *told) joined() [][2]int {
	var l [][2]int
	for _, x := range w.m.Triangles() {
		for k := range x {
			a, b := x[k], x[(k+1)%3]
			l = append(l, [2]int{min(a, b), max(a, b)})
		}
	}
	if !onOneLine(w.at) {
		return l
	}
	for i, a := range w.at {
		for k, b := range w.at[:i] {
			amid := func(p api.Point) bool { return p != a && p != b && between(p, a, b) }
			if !slices.ContainsFunc(w.at, amid) {
				l = append(l, [2]int{w.numbers[k], w.numbers[i]})
			}
		}
	}
	return l
}

func (w *told) point(number int) api.Point { return w.at[slices.Index(w.numbers, number)] }

// wantPlace: where p lies, by the words of the document.
func (w *told) wantPlace(p api.Point, joined [][2]int, triangles []api.Tri) api.Place {
	if i := slices.Index(w.at, p); i >= 0 {
		return api.Place{Kind: api.OnPoint, Of: [3]int{w.numbers[i], -1, -1}}
	}
	for _, e := range joined {
		if between(p, w.point(e[0]), w.point(e[1])) {
			return api.Place{Kind: api.OnEdge, Of: [3]int{e[0], e[1], -1}}
		}
	}
	for _, x := range triangles {
		if covered(p, w.point(x[0]), w.point(x[1]), w.point(x[2])) {
			return api.Place{Kind: api.Inside, Of: x}
		}
	}
	return api.Place{Kind: api.Outside, Of: [3]int{-1, -1, -1}}
}

func (w *told) checkLocate(t *testing.T, l ...api.Point) {
	t.Helper()
	joined, triangles := w.joined(), w.m.Triangles()
	for _, p := range append(slices.Clone(w.at), l...) {
		want := w.wantPlace(p, joined, triangles)
		if got, e := w.m.Locate(p); got != want || e != api.OK {
			t.Fatalf("P9: Locate(%v) of %v, %v = %v, %d, want %v, 0", p, w.at, w.numbers, got, e, want)
		}
	}
}

// wantNearest: the least number of those points from which no other one is nearer to p.
func (w *told) wantNearest(p api.Point) int {
	far := func(q api.Point) int { return (p.X-q.X)*(p.X-q.X) + (p.Y-q.Y)*(p.Y-q.Y) }
	var l []int
	for i, q := range w.at {
		nearer := func(o api.Point) bool { return far(o) < far(q) }
		if !slices.ContainsFunc(w.at, nearer) {
			l = append(l, w.numbers[i])
		}
	}
	return slices.Min(l)
}

func (w *told) checkNearest(t *testing.T, l ...api.Point) {
	t.Helper()
	for i, p := range w.at {
		if n, e := w.m.Nearest(p); n != w.numbers[i] || e != api.OK {
			t.Fatalf("P13: Nearest(%v) of %v, %v = %d, %d, want itself", p, w.at, w.numbers, n, e)
		}
	}
	for _, p := range l {
		if len(w.at) == 0 {
			if n, e := w.m.Nearest(p); n != 0 || e != api.ErrNone {
				t.Fatalf("P10: Nearest(%v) of none = %d, %d, want 0, %d", p, n, e, api.ErrNone)
			}
			continue
		}
		want := w.wantNearest(p)
		if n, e := w.m.Nearest(p); n != want || e != api.OK {
			t.Fatalf("P10: Nearest(%v) of %v, %v = %d, %d, want %d, 0", p, w.at, w.numbers, n, e, want)
		}
	}
}

func (w *told) checkTriangles(t *testing.T) {
	t.Helper()
	got := w.m.Triangles()
	for i := 1; i < len(got); i++ {
		if slices.Compare(got[i-1][:], got[i][:]) >= 0 {
			t.Fatalf("P8: Triangles() of %v, %v = %v: not rising", w.at, w.numbers, got)
		}
	}
	places := w.places(got)
	checkTriangulation(t, w.at, places)
	if want, e := trigon.Triangulate(w.at); !slices.Equal(places, want) || e != api.OK {
		t.Fatalf("P13: Triangles() of %v, %v = %v, but Triangulate is %v, %d", w.at, w.numbers, got, want, e)
	}
	if again := w.m.Triangles(); !slices.Equal(again, got) {
		t.Fatalf("P8: Triangles() of %v, %v = %v, and then %v", w.at, w.numbers, got, again)
	}
}

func (w *told) checkAll(t *testing.T, l ...api.Point) {
	t.Helper()
	w.checkTriangles(t)
	w.checkLocate(t, l...)
	w.checkNearest(t, l...)
}

package trigon_test

import (
	"math"
	"math/rand"
	"slices"
	"sync"
	"testing"

	"trigon/api"
	"trigon/trigon"
)

func wantTriangles(t *testing.T, m *trigon.Mesh, want ...api.Tri) {
	t.Helper()
	if got := m.Triangles(); !slices.Equal(got, want) {
		t.Errorf("P8: Triangles() = %v, want %v", got, want)
	}
}

func wantLocate(t *testing.T, m *trigon.Mesh, p api.Point, kind int, of [3]int) {
	t.Helper()
	if got, e := m.Locate(p); got.Kind != kind || got.Of != of || e != api.OK {
		t.Errorf("P9: Locate(%v) = %v, %d, want %d %v, 0", p, got, e, kind, of)
	}
}

func wantNearest(t *testing.T, m *trigon.Mesh, p api.Point, want int) {
	t.Helper()
	if n, e := m.Nearest(p); n != want || e != api.OK {
		t.Errorf("P10: Nearest(%v) = %d, %d, want %d, 0", p, n, e, want)
	}
}

func TestMeshExample(t *testing.T) {
	w := newTold(t, pts(0, 0, 4, 0, 0, 4)...)
	wantTriangles(t, w.m, api.Tri{0, 1, 2})
	wantLocate(t, w.m, pt(1, 1), api.Inside, [3]int{0, 1, 2})
	wantLocate(t, w.m, pt(2, 2), api.OnEdge, [3]int{1, 2, -1})
	wantLocate(t, w.m, pt(4, 0), api.OnPoint, [3]int{1, -1, -1})
	wantLocate(t, w.m, pt(3, 3), api.Outside, [3]int{-1, -1, -1})
	wantNearest(t, w.m, pt(2, 2), 0)
	wantNearest(t, w.m, pt(3, 2), 1)
	w.remove(t, 0)
	wantTriangles(t, w.m)
	wantLocate(t, w.m, pt(2, 2), api.OnEdge, [3]int{1, 2, -1})
	w.insert(t, pt(0, 0))
	if w.ever != 4 {
		t.Errorf("P7: %d numbers were given, want 4", w.ever)
	}
	wantTriangles(t, w.m, api.Tri{1, 2, 3})
}

func TestNewMeshHasNoPoints(t *testing.T) {
	w := newTold(t)
	wantTriangles(t, w.m)
	for _, p := range append(grid(1), pt(8000, -8000)) {
		wantLocate(t, w.m, p, api.Outside, [3]int{-1, -1, -1})
		if n, e := w.m.Nearest(p); n != 0 || e != api.ErrNone {
			t.Errorf("P10: Nearest(%v) of none = %d, %d, want 0, %d", p, n, e, api.ErrNone)
		}
	}
	for _, n := range wrongNumbers(0) {
		w.removeFails(t, n)
	}
	w.insert(t, pt(0, 0))
}

// wrongNumbers: some that no point has, if so many were ever given.
func wrongNumbers(ever int) []int {
	return []int{-1, -2, -60, ever, ever + 1, ever + 60, math.MaxInt, math.MinInt, math.MinInt + 1, 1 << 32, -1 << 32, 1<<32 + ever}
}

func TestInsertRefusesAndChangesNothing(t *testing.T) {
	for _, l := range [][]api.Point{nil, pts(0, 0), pts(0, 0, 1, 1, 2, 2), pts(0, 0, 4, 0, 4, 4, 0, 4), manyRound()} {
		w := newTold(t, l...)
		before := w.m.Triangles()
		for _, n := range farNumbers() {
			for _, p := range []api.Point{pt(n, 0), pt(0, n), pt(n, n)} {
				w.insertFails(t, p, api.ErrFar)
			}
		}
		for _, p := range w.at {
			w.insertFails(t, p, api.ErrTwice)
		}
		wantTriangles(t, w.m, before...)
		if len(l) < api.MaxPoints {
			w.insert(t, pt(-17, 31))
		} else {
			w.insertFails(t, pt(-17, 31), api.ErrMany)
		}
		w.checkAll(t, grid(1)...)
	}
}

func TestInsertAtTheEdges(t *testing.T) {
	w := newTold(t)
	for _, x := range edgeNumbers() {
		for _, y := range edgeNumbers() {
			w.insert(t, pt(x, y))
		}
	}
	w.checkAll(t, append(grid(2), pts(4000, 4000, -8000, 5, 8000, -3, 7, 8000, -7998, -7999)...)...)
}

func TestInsertOfTooMany(t *testing.T) {
	w := newTold(t, manyRound()...)
	before := w.m.Triangles()
	for _, p := range grid(2) {
		if !slices.Contains(w.at, p) {
			w.insertFails(t, p, api.ErrMany)
		}
	}
	w.insertFails(t, w.at[59], api.ErrTwice)
	w.insertFails(t, pt(0, 8001), api.ErrFar)
	wantTriangles(t, w.m, before...)
	w.removeFails(t, 60)
	w.remove(t, 17)
	w.insert(t, pt(0, 0))
	w.insertFails(t, pt(0, 1), api.ErrMany)
	w.remove(t, 60)
	w.remove(t, 0)
	w.insert(t, pt(0, 1))
	w.insert(t, manyRound()[0])
	w.insertFails(t, pt(0, 2), api.ErrMany)
	w.checkAll(t, pts(0, 0, 14, 0, 28, -1)...)
}

func TestNumbersDoNotComeAgain(t *testing.T) {
	w := newTold(t)
	for n := range 500 {
		w.insert(t, pt(5, 5))
		w.remove(t, n)
		w.removeFails(t, n)
	}
	w.insert(t, pt(5, 5))
	w.insert(t, pt(9, 9))
	for n := range 500 {
		w.removeFails(t, n)
	}
	wantLocate(t, w.m, pt(7, 7), api.OnEdge, [3]int{500, 501, -1})
	w.remove(t, 501)
	w.remove(t, 500)
	wantTriangles(t, w.m)
	w.checkAll(t, grid(1)...)
	w.insert(t, pt(5, 5))
	wantLocate(t, w.m, pt(5, 5), api.OnPoint, [3]int{502, -1, -1})
}

func TestRemoveRefusesAndChangesNothing(t *testing.T) {
	w := newTold(t, grid(2)...)
	w.remove(t, 0)
	w.remove(t, 24)
	w.remove(t, 12)
	before := w.m.Triangles()
	for _, n := range append(wrongNumbers(25), 0, 12, 24) {
		w.removeFails(t, n)
	}
	wantTriangles(t, w.m, before...)
	w.insert(t, pt(0, 0))
	w.checkAll(t, grid(3)...)
}

func TestRemoveInAnyOrder(t *testing.T) {
	r := rand.New(rand.NewSource(30))
	for _, l := range goodLists() {
		w := newTold(t, l...)
		for range l {
			w.remove(t, w.numbers[r.Intn(len(w.numbers))])
			if len(w.at) < 12 || len(w.at)%20 == 0 {
				w.checkTriangles(t)
			}
		}
		w.checkAll(t, grid(1)...)
	}
}

func TestMeshesWhateverCameAndWent(t *testing.T) {
	r := rand.New(rand.NewSource(31))
	for range 60 {
		w := newTold(t)
		size := []int{1, 2, 3, 100, 8000}[r.Intn(5)]
		for range 25 {
			w.change(t, r, size)
			w.checkAll(t, somePoint(r, size), somePoint(r, min(8000, 2*size)), somePoint(r, 3), somePoint(r, 3))
		}
	}
}

func TestMeshesOfManyWhateverCameAndWent(t *testing.T) {
	r := rand.New(rand.NewSource(32))
	for _, size := range []int{4, 5, 8000} {
		w := newTold(t)
		for n := range 600 {
			w.change(t, r, size)
			if n%150 == 149 {
				w.checkAll(t, differentPoints(r, 30, size)...)
			}
		}
	}
}

// Where several triangulations are right, it can be told by where the corners are whether it is still the same one.
func TestTrianglesHangOnTheirPoints(t *testing.T) {
	at := func(w *told) [][3]api.Point {
		var l [][3]api.Point
		for _, x := range w.m.Triangles() {
			c := []api.Point{w.point(x[0]), w.point(x[1]), w.point(x[2])}
			slices.SortFunc(c, func(a, b api.Point) int { return slices.Compare([]int{a.X, a.Y}, []int{b.X, b.Y}) })
			l = append(l, [3]api.Point(c))
		}
		return l
	}
	r := rand.New(rand.NewSource(33))
	for _, l := range [][]api.Point{grid(2), onOneCircle(), manyRound()} {
		want := at(newTold(t, l...))
		w := newTold(t, grid(3)...)
		for len(w.at) > 0 {
			w.remove(t, w.numbers[r.Intn(len(w.numbers))])
		}
		for _, n := range r.Perm(len(l)) {
			w.insert(t, l[n])
		}
		got := at(w)
		for _, x := range got {
			if !slices.Contains(want, x) {
				t.Fatalf("P13: of %v, %v: %v, want %v", w.at, w.numbers, got, want)
			}
		}
		if len(got) != len(want) {
			t.Fatalf("P13: of %v, %v: %v, want %v", w.at, w.numbers, got, want)
		}
	}
}

func TestTrianglesStayUntilAPointComesOrGoes(t *testing.T) {
	for _, l := range goodLists() {
		w := newTold(t, l...)
		want := slices.Clone(w.m.Triangles())
		for range 5 {
			w.insertFails(t, pt(8001, 0), api.ErrFar)
			w.removeFails(t, -1)
			w.m.Locate(pt(1, 1))
			w.m.Locate(pt(0, -8001))
			w.m.Nearest(pt(1, 1))
			w.m.Nearest(pt(0, -8001))
			newTold(t, grid(3)...).remove(t, 3)
			trigon.Triangulate(grid(2))
			wantTriangles(t, w.m, want...)
		}
	}
}

func TestMeshesAreApart(t *testing.T) {
	a, b := newTold(t, pts(0, 0, 4, 0)...), newTold(t)
	if a.m == b.m {
		t.Fatal("P7: NewMesh() gave one mesh twice")
	}
	b.insert(t, pt(0, 0))
	a.insert(t, pt(0, 4))
	b.removeFails(t, 2)
	b.remove(t, 0)
	wantTriangles(t, a.m, api.Tri{0, 1, 2})
	wantTriangles(t, b.m)
	b.insert(t, pt(0, 0))
	wantLocate(t, a.m, pt(0, 0), api.OnPoint, [3]int{0, -1, -1})
	wantLocate(t, b.m, pt(0, 0), api.OnPoint, [3]int{1, -1, -1})
}

func TestTrianglesAreNewMemory(t *testing.T) {
	junk := api.Tri{-5, -5, -5}
	for _, l := range goodLists() {
		w := newTold(t, l...)
		first, second := w.m.Triangles(), w.m.Triangles()
		want := slices.Clone(second)
		first = first[:cap(first)]
		for i := range first {
			first[i] = junk
		}
		wantTriangles(t, w.m, want...)
		w.checkLocate(t, grid(1)...)
		if len(l) > 0 {
			w.remove(t, 0)
			w.m.Triangles()
		}
		if !slices.Equal(second, want) {
			t.Errorf("P2: an answer turned from %v to %v", want, second)
		}
		if slices.ContainsFunc(first, func(x api.Tri) bool { return x != junk }) {
			t.Errorf("P2: a later call wrote into an earlier answer or its spare room: %v", first)
		}
	}
}

func TestMeshesAtTheSameTime(t *testing.T) {
	var group sync.WaitGroup
	for n := range 8 {
		group.Go(func() {
			m := trigon.NewMesh()
			for i, p := range grid(3)[:20+n] {
				if k, e := m.Insert(p); k != i || e != api.OK {
					t.Errorf("P7: Insert(%v) = %d, %d, want %d, 0", p, k, e, i)
				}
			}
			want, _ := trigon.Triangulate(grid(3)[:20+n])
			for range 50 {
				wantTriangles(t, m, want...)
				wantLocate(t, m, pt(-3, -3), api.OnPoint, [3]int{0, -1, -1})
				wantNearest(t, m, pt(-8000, -8000), 0)
			}
		})
	}
	group.Wait()
}

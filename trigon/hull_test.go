package trigon_test

import (
	"math/rand"
	"slices"
	"testing"

	"trigon/api"
	"trigon/trigon"
)

// between: whether p lies on the way from a to b, or on one of them.
func between(p, a, b api.Point) bool {
	return wantSide(a, b, p) == 0 &&
		min(a.X, b.X) <= p.X && p.X <= max(a.X, b.X) &&
		min(a.Y, b.Y) <= p.Y && p.Y <= max(a.Y, b.Y)
}

// covered: whether three of the points hold p between them.
func covered(p, a, b, c api.Point) bool {
	s := wantSide(a, b, c)
	if s == 0 {
		return between(p, a, b) || between(p, b, c) || between(p, c, a)
	}
	return s*wantSide(a, b, p) >= 0 && s*wantSide(b, c, p) >= 0 && s*wantSide(c, a, p) >= 0
}

// isCorner: whether the hull would be smaller without l[n], that is, whether no three of the others (be they the same) hold it.
func isCorner(l []api.Point, n int) bool {
	others := slices.Delete(slices.Clone(l), n, n+1)
	for i, a := range others {
		for j, b := range others[:i+1] {
			for _, c := range others[:j+1] {
				if covered(l[n], a, b, c) {
					return false
				}
			}
		}
	}
	return true
}

// checkHull holds Hull's answer against the words of the document.
func checkHull(t *testing.T, l []api.Point) {
	t.Helper()
	got, e := trigon.Hull(l)
	if e != api.OK {
		t.Fatalf("P5: Hull(%v): error %d", l, e)
	}
	var want []int
	for n := range l {
		if isCorner(l, n) {
			want = append(want, n)
		}
	}
	if !slices.Equal(slices.Sorted(slices.Values(got)), want) {
		t.Fatalf("P5: Hull(%v) = %v, want the corners %v", l, got, want)
	}
	checkRound(t, l, got)
}

// checkRound: whether corners stand counterclockwise, from the right one on.
func checkRound(t *testing.T, l []api.Point, got []int) {
	t.Helper()
	for i, n := range got {
		next, after := got[(i+1)%len(got)], got[(i+2)%len(got)]
		for _, p := range l {
			if wantSide(l[n], l[next], p) < 0 {
				t.Fatalf("P13: Hull(%v) = %v: %v lies right of %d to %d", l, got, p, n, next)
			}
		}
		if len(got) >= 3 && wantSide(l[n], l[next], l[after]) != 1 {
			t.Fatalf("P13: Hull(%v) = %v: no left turn at %d", l, got, next)
		}
		first := l[got[0]]
		if l[n].X < first.X || l[n].X == first.X && l[n].Y < first.Y {
			t.Fatalf("P5: Hull(%v) = %v does not begin with %d", l, got, n)
		}
	}
}

func TestHullExamples(t *testing.T) {
	for _, c := range []struct {
		l    []api.Point
		want []int
	}{
		{nil, nil},
		{pts(), nil},
		{pts(3, 3), []int{0}},
		{pts(-8000, 8000), []int{0}},
		{pts(3, 3, 1, 9), []int{1, 0}},
		{pts(1, 9, 3, 3), []int{0, 1}},
		{pts(5, 9, 5, 3), []int{1, 0}},
		{pts(0, 0, 2, 0, 4, 0, 4, 4, 1, 1, 0, 4), []int{0, 2, 3, 5}},
		{pts(3, 3, 1, 1, 2, 2), []int{1, 0}},
		{pts(2, 7, 2, -7, 2, 0, 2, 1), []int{1, 0}},
		{pts(4, 2, 9, 2, -4, 2, 0, 2), []int{2, 1}},
		{pts(1, 9, 2, 8, 5, 5, 3, 7), []int{0, 2}},
		{pts(0, 3, 4, 0, 0, 0), []int{2, 1, 0}},
		{pts(0, 4, 4, 4, 0, 0, 4, 0), []int{2, 3, 1, 0}},
		{pts(0, 2, 0, 1, 0, 0, 1, 0, 2, 0, 2, 1, 2, 2, 1, 2, 1, 1), []int{2, 4, 6, 0}},
		{pts(0, 8000, 8000, 0, 0, -8000, -8000, 0, 1, -7999, 7999, 1), []int{3, 2, 1, 0}},
	} {
		if got, e := trigon.Hull(c.l); !slices.Equal(got, c.want) || e != api.OK {
			t.Errorf("P5: Hull(%v) = %v, %d, want %v, 0", c.l, got, e, c.want)
		}
	}
}

func TestHullOfNearPoints(t *testing.T) {
	l := grid(1)
	r := rand.New(rand.NewSource(8))
	for n := range len(l) + 1 {
		for range 60 {
			r.Shuffle(len(l), func(i, j int) { l[i], l[j] = l[j], l[i] })
			checkHull(t, l[:n])
		}
	}
}

func TestHullOfSomePoints(t *testing.T) {
	r := rand.New(rand.NewSource(9))
	for range 300 {
		checkHull(t, differentPoints(r, r.Intn(13), []int{1, 2, 5, 100, 8000}[r.Intn(5)]))
	}
	for range 3 {
		checkHull(t, differentPoints(r, 25, 8000))
	}
}

func TestHullOfPointsOnOneLine(t *testing.T) {
	onOneLineEach(func(l []api.Point, way api.Point) {
		ends := []int{slices.Index(l, pt(0, 0)), slices.Index(l, pt(59*way.X, 59*way.Y))}
		if way.X < 0 || way.X == 0 && way.Y < 0 {
			slices.Reverse(ends)
		}
		if got, e := trigon.Hull(l); !slices.Equal(got, ends) || e != api.OK {
			t.Errorf("P5: Hull(%v) = %v, %d, want %v, 0", l, got, e, ends)
		}
	})
}

// manyRound: as many points as there may be, all of them corners, in the order in which Hull tells them.
func manyRound() []api.Point {
	var lower, upper []api.Point
	for x := range api.MaxPoints / 2 {
		lower = append(lower, pt(x, x*x-8000))
		upper = append(upper, pt(29-x, 8000-(29-x)*(29-x)))
	}
	return append(lower, upper...)
}

func TestHullOfManyCorners(t *testing.T) {
	l := manyRound()
	want := make([]int, len(l))
	for i := range want {
		want[i] = i
	}
	if got, e := trigon.Hull(l); !slices.Equal(got, want) || e != api.OK {
		t.Errorf("P5: Hull(%v) = %v, %d, want %v, 0", l, got, e, want)
	}
	for i, n := range rand.New(rand.NewSource(11)).Perm(len(l)) {
		l[n], want[i] = manyRound()[i], n
	}
	if got, e := trigon.Hull(l); !slices.Equal(got, want) || e != api.OK {
		t.Errorf("P5: Hull(%v) = %v, %d, want %v, 0", l, got, e, want)
	}
}

// wantError: of Hull and, for its errors are the same, of Triangulate.
func wantError(t *testing.T, l []api.Point, want api.Errno) {
	t.Helper()
	if got, e := trigon.Hull(l); len(got) != 0 || e != want {
		t.Fatalf("P5: Hull(%v) = %v, %d, want none, %d", l, got, e, want)
	}
	if got, e := trigon.Triangulate(l); len(got) != 0 || e != want {
		t.Fatalf("P6: Triangulate(%v) = %v, %d, want none, %d", l, got, e, want)
	}
}

func TestErrorsOfTooMany(t *testing.T) {
	l := append(manyRound(), pt(10, 0), pt(11, 0))
	wantError(t, l[:61], api.ErrMany)
	wantError(t, l, api.ErrMany)
	wantError(t, make([]api.Point, 100000), api.ErrMany)
	l[60] = l[0]
	wantError(t, l[:61], api.ErrMany)
	l[0] = pt(8001, 0)
	wantError(t, l[:61], api.ErrMany)
	wantError(t, l[:60], api.ErrFar)
	l[1] = l[0]
	wantError(t, l[:61], api.ErrMany)
	wantError(t, l[:60], api.ErrFar)
}

func TestErrorsOfPointsTooFarOut(t *testing.T) {
	isFar := func(l []api.Point) { wantError(t, l, api.ErrFar) }
	withFar(pts(0, 0), isFar)
	withFar(pts(0, 0, 4, 0, 0, 3, 1, 1), isFar)
	withFar(pts(5, 5, 5, 5, 5, 5), isFar)
	l := manyRound()
	for i := range l {
		was := l[i]
		l[i].Y = -8001
		isFar(l)
		l[i] = was
	}
	checkHull(t, pts(8000, 8000, -8000, 8000, 8000, -8000, -8000, -8000))
}

func TestErrorsOfAPointTwice(t *testing.T) {
	wantError(t, pts(0, 0, 0, 0), api.ErrTwice)
	wantError(t, pts(8000, 1, 2, 3, 8000, 1), api.ErrTwice)
	wantError(t, make([]api.Point, 60), api.ErrTwice)
	wantError(t, pts(0, 0, 4, 0, 1, 1, 0, 4, 1, 1), api.ErrTwice)
	l := manyRound()
	for i := range l {
		for j := range i {
			was := l[i]
			l[i] = l[j]
			wantError(t, l, api.ErrTwice)
			l[i] = was
		}
	}
	checkHull(t, pts(1, 2, 2, 1, 1, -2, -1, 2, -2, 1))
}

func TestHullKeepsNothing(t *testing.T) {
	l := pts(0, 0, 4, 0, 0, 4, 1, 1)
	got, _ := trigon.Hull(l)
	copy(l, pts(9, 9, 0, 0, 9, 0, 0, 9))
	if !slices.Equal(got, []int{0, 1, 2}) {
		t.Errorf("P2: the answer turned to %v", got)
	}
	if got, _ = trigon.Hull(l); !slices.Equal(got, []int{1, 2, 0, 3}) {
		t.Errorf("P2: Hull(%v) = %v", l, got)
	}
	trigon.Hull(pts(1, 1, 1, 1))
	if got, e := trigon.Hull(l); !slices.Equal(got, []int{1, 2, 0, 3}) || e != api.OK {
		t.Errorf("P2: Hull(%v) behind an error = %v, %d", l, got, e)
	}
}

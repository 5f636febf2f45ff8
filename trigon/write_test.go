package trigon_test

import (
	"math"
	"math/rand"
	"slices"
	"strings"
	"testing"

	"trigon/api"
	"trigon/trigon"
)

func TestWriteOfGoodTexts(t *testing.T) {
	for _, w := range goodTexts() {
		wantText(t, w)
	}
}

func TestWriteOfSomeLists(t *testing.T) {
	r := rand.New(rand.NewSource(60))
	for _, size := range []int{1, 12, 150, 8000} {
		for points := range api.MaxPoints + 1 {
			wantText(t, someWritten(r, points, r.Intn(150), size))
		}
	}
}

// Each number that a point can have, so that none is written in another way.
func TestWriteOfEachNumber(t *testing.T) {
	for n := -8000; n <= 8000; n++ {
		w := written{pts(n, -n), nil, textOf(pts(n, -n), nil)}
		wantText(t, w)
		wantRead(t, w)
	}
}

func TestWriteOfManyTriangles(t *testing.T) {
	const many = 100000
	w := written{pts(7, -7), make([]api.Tri, many), "1\n7 -7\n100000\n" + strings.Repeat("0 0 0\n", many)}
	wantText(t, w)
	wantRead(t, w)
}

func TestWriteOfTooManyPoints(t *testing.T) {
	for _, n := range []int{61, 62, 64, 128, 256, 1000, 65536} {
		l := make([]api.Point, n)
		wantNoText(t, l, nil, api.ErrMany)
		wantNoText(t, l, []api.Tri{{0, 1, 2}}, api.ErrMany)
		wantNoText(t, l, []api.Tri{{0, -1, 2}}, api.ErrMany)
		l[n-1] = pt(8001, 0)
		wantNoText(t, l, nil, api.ErrMany)
		wantNoText(t, l, []api.Tri{{0, -1, n}}, api.ErrMany)
	}
}

func TestWriteOfPointsTooFarOut(t *testing.T) {
	withFar(pts(0, 0, 4, 0, 0, 4), func(l []api.Point) {
		wantNoText(t, l, nil, api.ErrFar)
		wantNoText(t, l, []api.Tri{{0, 1, 2}}, api.ErrFar)
		wantNoText(t, l, []api.Tri{{0, 1, 3}}, api.ErrFar)
		wantNoText(t, l, []api.Tri{{-1, 1, 2}}, api.ErrFar)
	})
}

func TestWriteOfNumbersWithoutPoint(t *testing.T) {
	r := rand.New(rand.NewSource(61))
	wrong := append(farNumbers(), -1, -2, -60, -61, -256)
	for _, points := range []int{0, 1, 2, 3, 59, 60} {
		w := someWritten(r, points, 3, 5)
		for _, n := range append(wrong, points, points+1, 60, 61, 256) {
			for place := range 3 {
				c := api.Tri{}
				c[place] = n
				wantNoText(t, w.l, []api.Tri{c}, api.ErrNone)
				for i := range w.t {
					wantNoText(t, w.l, slices.Insert(slices.Clone(w.t), i, c), api.ErrNone)
				}
				wantNoText(t, w.l, append(slices.Clone(w.t), c), api.ErrNone)
			}
		}
	}
	wantNoText(t, nil, []api.Tri{{}}, api.ErrNone)
	wantNoText(t, pts(1, 1), []api.Tri{{math.MinInt, math.MaxInt, 0}}, api.ErrNone)
}

// A point that is there twice is no error here, as it is for Hull.
func TestWriteOfTheSamePoints(t *testing.T) {
	wantText(t, written{pts(1, 2, 1, 2), []api.Tri{{1, 0, 1}}, "2\n1 2\n1 2\n1\n1 0 1\n"})
}

func TestWriteLeavesWhatIsHandedIn(t *testing.T) {
	for _, w := range goodTexts() {
		sparePoints, spareTriangles := pts(77, 77, 9000, -9), []api.Tri{{-5, 70, 0}, {1, 2, 3}}
		l, c := slices.Concat(w.l, sparePoints), slices.Concat(w.t, spareTriangles)
		wantText(t, written{l[:len(w.l)], c[:len(w.t)], w.s})
		if !slices.Equal(l, slices.Concat(w.l, sparePoints)) || !slices.Equal(c, slices.Concat(w.t, spareTriangles)) {
			t.Errorf("P2: %v, %v and their spare room are now %v, %v", w.l, w.t, l, c)
		}
	}
}

func TestWriteKeepsNothing(t *testing.T) {
	l, c := pts(0, 0, 4, 0, 0, 4), []api.Tri{{0, 1, 2}}
	want := textOf(l, c)
	s, _ := trigon.Write(l, c)
	l[0], c[0] = pt(9, 9), api.Tri{1, 1, 1}
	if s != want {
		t.Errorf("P2: the text changed with the list: %q", s)
	}
	wantText(t, written{l, c, textOf(l, c)})
}

package trigon_test

import (
	"math/rand"
	"testing"

	"trigon/api"
)

func outside() [3]int { return [3]int{-1, -1, -1} }

func TestLocateAmongFew(t *testing.T) {
	w := newTold(t, pt(3, -2))
	wantLocate(t, w.m, pt(3, -2), api.OnPoint, [3]int{0, -1, -1})
	for _, p := range pts(3, -1, 2, -2, 4, -2, 3, -3, -2, 3, 8000, 8000, 0, 0) {
		wantLocate(t, w.m, p, api.Outside, outside())
	}
	w.insert(t, pt(-3, 4))
	wantLocate(t, w.m, pt(0, 1), api.OnEdge, [3]int{0, 1, -1})
	wantLocate(t, w.m, pt(1, 0), api.OnEdge, [3]int{0, 1, -1})
	wantLocate(t, w.m, pt(1, 1), api.Outside, outside())
	wantLocate(t, w.m, pt(6, -5), api.Outside, outside())
	wantLocate(t, w.m, pt(-6, 7), api.Outside, outside())
	w.checkLocate(t, grid(7)...)
}

func TestLocateOnOneLine(t *testing.T) {
	w := newTold(t, pts(4, 4, 0, 0, 8, 8, 2, 2)...)
	wantLocate(t, w.m, pt(1, 1), api.OnEdge, [3]int{1, 3, -1})
	wantLocate(t, w.m, pt(3, 3), api.OnEdge, [3]int{0, 3, -1})
	wantLocate(t, w.m, pt(7, 7), api.OnEdge, [3]int{0, 2, -1})
	wantLocate(t, w.m, pt(9, 9), api.Outside, outside())
	wantLocate(t, w.m, pt(-1, -1), api.Outside, outside())
	wantLocate(t, w.m, pt(3, 4), api.Outside, outside())
	w.remove(t, 0)
	wantLocate(t, w.m, pt(4, 4), api.OnEdge, [3]int{2, 3, -1})
	w.remove(t, 3)
	wantLocate(t, w.m, pt(4, 4), api.OnEdge, [3]int{1, 2, -1})
	w.remove(t, 2)
	wantLocate(t, w.m, pt(4, 4), api.Outside, outside())
	for _, way := range pts(1, 0, 0, 1, 2, 2, 2, -2, 3, 1, -1, 3, 2, 4) {
		w := newTold(t)
		for _, f := range []int{0, 2, -2, 1} {
			w.insert(t, pt(f*way.X, f*way.Y))
			w.checkLocate(t, grid(9)...)
		}
	}
}

func TestLocateOnOneLineOfMany(t *testing.T) {
	onOneLineEach(func(l []api.Point, way api.Point) {
		for i := range l {
			l[i] = pt(l[i].X-5*way.X, l[i].Y-5*way.Y)
		}
		w := newTold(t, l...)
		for _, n := range []int{3, 17, 58} {
			w.remove(t, n)
		}
		w.checkLocate(t, append(grid(3), pt(-6*way.X, -6*way.Y), l[3], l[17], pt(l[58].X+1, l[58].Y))...)
	})
}

// On the line of a boundary's side, but beyond its end, is outside.
func TestLocateBeyondASide(t *testing.T) {
	w := newTold(t, pts(0, 0, 4, 0, 0, 4)...)
	for _, p := range pts(5, 0, -1, 0, 0, 5, 0, -1, 5, -1, -1, 5, 8000, 0, 0, -8000) {
		wantLocate(t, w.m, p, api.Outside, outside())
	}
	wantLocate(t, w.m, pt(3, 0), api.OnEdge, [3]int{0, 1, -1})
	wantLocate(t, w.m, pt(0, 1), api.OnEdge, [3]int{0, 2, -1})
}

func TestLocateTellsTheLesserNumberFirst(t *testing.T) {
	w := newTold(t, pts(0, 4, 4, 0, 0, 0)...)
	wantTriangles(t, w.m, api.Tri{0, 2, 1})
	wantLocate(t, w.m, pt(1, 1), api.Inside, [3]int{0, 2, 1})
	wantLocate(t, w.m, pt(2, 2), api.OnEdge, [3]int{0, 1, -1})
	wantLocate(t, w.m, pt(2, 0), api.OnEdge, [3]int{1, 2, -1})
	wantLocate(t, w.m, pt(0, 2), api.OnEdge, [3]int{0, 2, -1})
}

func TestLocateAcrossASquare(t *testing.T) {
	w := newTold(t, pts(0, 0, 4, 0, 4, 4, 0, 4)...)
	w.checkLocate(t, grid(6)...)
	if got, e := w.m.Locate(pt(2, 2)); got.Kind != api.OnEdge || e != api.OK {
		t.Errorf("P9: Locate of a square's middle = %v, %d", got, e)
	}
	w.remove(t, 0)
	w.insert(t, pt(0, 0))
	w.checkLocate(t, grid(6)...)
}

// However some of these come, each point on and around them is asked.
func TestLocateOfAllNearPoints(t *testing.T) {
	all := pts(0, 0, 2, 0, 4, 0, 0, 2, 2, 2, 4, 2, 0, 4, 4, 4)
	r := rand.New(rand.NewSource(40))
	for which := range 1 << len(all) {
		w := newTold(t)
		for _, i := range r.Perm(len(all)) {
			if which>>i&1 == 1 {
				w.insert(t, all[i])
			}
		}
		var l []api.Point
		for n := range 49 {
			l = append(l, pt(n%7-1, n/7-1))
		}
		w.checkLocate(t, l...)
	}
}

func TestLocateAmongMany(t *testing.T) {
	for i, l := range [][]api.Point{manyRound(), onOneCircle(), grid(3)} {
		w := newTold(t, l...)
		r := rand.New(rand.NewSource(int64(41 + i)))
		w.checkLocate(t, append(differentPoints(r, 50, 8000), grid(4)...)...)
	}
}

func TestLocateByAHair(t *testing.T) {
	w := newTold(t, pts(-8000, -8000, 8000, 7999, 8000, 8000)...)
	wantLocate(t, w.m, pt(0, 0), api.OnEdge, [3]int{0, 2, -1})
	wantLocate(t, w.m, pt(0, -1), api.Outside, outside())
	wantLocate(t, w.m, pt(7999, 7998), api.Outside, outside())
	wantLocate(t, w.m, pt(7999, 8000), api.Outside, outside())
	w = newTold(t, pts(-8000, -8000, 8000, 7998, 8000, 8000)...)
	wantLocate(t, w.m, pt(0, -1), api.OnEdge, [3]int{0, 1, -1})
	wantLocate(t, w.m, pt(1, 0), api.Inside, [3]int{0, 1, 2})
	wantLocate(t, w.m, pt(7999, 7998), api.Inside, [3]int{0, 1, 2})
	wantLocate(t, w.m, pt(7999, 7997), api.Outside, outside())
}

func TestLocateTooFarOut(t *testing.T) {
	for _, l := range [][]api.Point{nil, pts(8000, 0), pts(0, 0, 8000, 8000), pts(-8000, -8000, 8000, -8000, 0, 8000)} {
		w := newTold(t, l...)
		withFar(pts(0, 0), func(p []api.Point) {
			if got, e := w.m.Locate(p[0]); got != (api.Place{}) || e != api.ErrFar {
				t.Fatalf("P9: Locate(%v) = %v, %d, want zeros, 1", p[0], got, e)
			}
		})
		w.checkLocate(t, pts(8000, 8000, -8000, 8000, -8000, -8000, 8000, -8000, 0, -8000)...)
	}
}

package trigon_test

import (
	"math/rand"
	"testing"

	"trigon/api"
)

func TestNearestOfSeveralAsFar(t *testing.T) {
	w := newTold(t, pts(5, 0, 0, 5, -5, 0, 0, -5, 3, 4, -4, -3)...)
	for want := range 6 {
		wantNearest(t, w.m, pt(0, 0), want)
		w.remove(t, want)
	}
	w.insert(t, pt(0, -5))
	w.insert(t, pt(5, 0))
	w.insert(t, pt(0, 4))
	wantNearest(t, w.m, pt(0, 0), 8)
	w.remove(t, 8)
	wantNearest(t, w.m, pt(0, 0), 6)
	w.remove(t, 6)
	wantNearest(t, w.m, pt(0, 0), 7)
}

func TestNearestAtTheEdges(t *testing.T) {
	w := newTold(t, pts(8000, 8000, -8000, -8000)...)
	wantNearest(t, w.m, pt(0, 0), 0)
	wantNearest(t, w.m, pt(0, -1), 1)
	wantNearest(t, w.m, pt(8000, -8000), 0)
	wantNearest(t, w.m, pt(7999, -8000), 1)
	w.remove(t, 0)
	wantNearest(t, w.m, pt(8000, 8000), 1)
	w.insert(t, pt(-8000, -7999))
	wantNearest(t, w.m, pt(8000, 8000), 2)
	wantNearest(t, w.m, pt(8000, -8000), 1)
}

// A point can be nearest though it is farther along one of X and Y, or along both together.
func TestNearestIsByTheStraightWay(t *testing.T) {
	w := newTold(t, pts(6, 0, 4, 4)...)
	wantNearest(t, w.m, pt(0, 0), 1)
	w = newTold(t, pts(5, 5, 6, 0)...)
	wantNearest(t, w.m, pt(0, 0), 1)
}

func TestNearestOfAllNearPoints(t *testing.T) {
	r := rand.New(rand.NewSource(50))
	for range 100 {
		w := newTold(t)
		for range 1 + r.Intn(30) {
			w.change(t, r, 3)
		}
		w.checkNearest(t, grid(5)...)
	}
}

func TestNearestOfSomePoints(t *testing.T) {
	r := rand.New(rand.NewSource(51))
	for range 50 {
		w := newTold(t, differentPoints(r, 1+r.Intn(60), 8000)...)
		w.checkNearest(t, differentPoints(r, 30, 8000)...)
	}
}

func TestNearestTooFarOut(t *testing.T) {
	for _, l := range [][]api.Point{nil, pts(8000, 8000), pts(0, 0, 8000, 8000, -8000, 0)} {
		w := newTold(t, l...)
		withFar(pts(0, 0), func(p []api.Point) {
			if n, e := w.m.Nearest(p[0]); n != 0 || e != api.ErrFar {
				t.Fatalf("P10: Nearest(%v) = %d, %d, want 0, 1", p[0], n, e)
			}
		})
		w.checkNearest(t, pts(8000, 8000, -8000, 8000, -8000, -8000, 8000, -8000)...)
	}
}

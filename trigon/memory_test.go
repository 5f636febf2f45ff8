package trigon_test

import (
	"slices"
	"sync"
	"testing"

	"trigon/api"
	"trigon/trigon"
)

// call: one that makes a list of points into another list.
type call[T any] func(l []api.Point) ([]T, api.Errno)

// goodLists: points that no call refuses; all on one line, on one circle, on a grid, or none of it.
func goodLists() [][]api.Point {
	return [][]api.Point{
		nil, pts(1, 1), pts(1, 1, 0, 0), pts(3, 3, 1, 1, 2, 2), pts(0, 0, 4, 0, 4, 4, 0, 4),
		pts(9, 0, 0, 0, 4, 4, 0, 9, 1, 1), grid(1), grid(3), onOneCircle(), manyRound(),
	}
}

// badLists: points that Hull and Triangulate refuse.
func badLists() [][]api.Point {
	return [][]api.Point{pts(5, 5, 1, 1, 5, 5), pts(9000, 0, 1, 1, 0, 0), append(manyRound(), pt(10, 0))}
}

func checkLeavesWhatIsHandedIn[T comparable](t *testing.T, f call[T]) {
	t.Helper()
	for _, l := range append(goodLists(), badLists()...) {
		spare := pts(77, 77, -9, -9, 5, 4)
		in := append(slices.Clone(l), spare...)
		got, _ := f(in[:len(l)])
		if !slices.Equal(in[:len(l)], l) || !slices.Equal(in[len(l):], spare) {
			t.Errorf("P2: %v and its spare room are now %v", l, in)
		}
		tight, _ := f(slices.Clip(slices.Clone(l)))
		if !slices.Equal(got, tight) {
			t.Errorf("P2: of %v: %v with spare room, %v without", l, got, tight)
		}
	}
}

// checkAnswersTheSame: whatever else was asked in between, and refused.
func checkAnswersTheSame[T comparable](t *testing.T, f call[T]) {
	t.Helper()
	var want [][]T
	for _, l := range goodLists() {
		got, _ := f(l)
		want = append(want, slices.Clone(got))
	}
	for range 20 {
		for i, l := range goodLists() {
			f(badLists()[i%3])
			if got, e := f(l); !slices.Equal(got, want[i]) || e != api.OK {
				t.Fatalf("P2: of %v: %v, %d, and ahead of it %v", l, got, e, want[i])
			}
		}
	}
}

// checkGivesNewMemory writes junk, which no answer has, over answers and their spare room.
func checkGivesNewMemory[T comparable](t *testing.T, f call[T], junk T) {
	t.Helper()
	for _, l := range goodLists() {
		first, _ := f(l)
		second, _ := f(l)
		want := slices.Clone(second)
		spare := slices.Clone(second[:cap(second)])
		first = first[:cap(first)]
		for i := range first {
			first[i] = junk
		}
		third, _ := f(l)
		if !slices.Equal(second[:cap(second)], spare) || !slices.Equal(third, want) {
			t.Errorf("P2: of %v: writing into one answer changed another: %v, %v, want %v", l, second, third, want)
		}
		if slices.ContainsFunc(first, func(x T) bool { return x != junk }) {
			t.Errorf("P2: of %v: a later call wrote into an earlier answer or its spare room: %v", l, first)
		}
	}
}

func checkAtTheSameTime[T comparable](t *testing.T, f call[T]) {
	t.Helper()
	var group sync.WaitGroup
	for n := range 8 {
		group.Go(func() {
			l := grid(3)[:20+n]
			want, _ := f(l)
			want = slices.Clone(want)
			for range 100 {
				if got, e := f(l); !slices.Equal(got, want) || e != api.OK {
					t.Errorf("P2: of %v: %v, %d, want %v, 0", l, got, e, want)
					return
				}
			}
		})
	}
	group.Wait()
}

func TestHullAndMemory(t *testing.T) {
	checkLeavesWhatIsHandedIn(t, trigon.Hull)
	checkAnswersTheSame(t, trigon.Hull)
	checkGivesNewMemory(t, trigon.Hull, -5)
	checkAtTheSameTime(t, trigon.Hull)
}

func TestTriangulateAndMemory(t *testing.T) {
	checkLeavesWhatIsHandedIn(t, trigon.Triangulate)
	checkAnswersTheSame(t, trigon.Triangulate)
	checkGivesNewMemory(t, trigon.Triangulate, api.Tri{-5, -5, -5})
	checkAtTheSameTime(t, trigon.Triangulate)
}

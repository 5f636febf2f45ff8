package mesh

import (
	"slices"
	"testing"

	"trigon/api"
)

// What is kept is no more than the points that are there.
func TestPointsKeepsNoPointThatWent(t *testing.T) {
	var m Points
	for n := range 3000 {
		if got, e := m.Insert(api.Point{X: n % 100, Y: n / 100}); got != n || e != api.OK {
			t.Fatalf("insert: %d, %d, want %d", got, e, n)
		}
		if n >= 50 {
			m.Remove(n - 50)
		}
	}
	if len(m.at) != 50 || len(m.numbers) != len(m.at) || cap(m.at) > 1000 || cap(m.numbers) > 1000 {
		t.Errorf("%d points are kept in %d, %d numbers in %d", len(m.at), cap(m.at), len(m.numbers), cap(m.numbers))
	}
	if !slices.IsSorted(m.numbers) {
		t.Errorf("numbers: %v", m.numbers)
	}
}

func TestPointsWithoutAny(t *testing.T) {
	var m Points
	if l := m.Triangles(); len(l) != 0 {
		t.Errorf("triangles of none: %v", l)
	}
	if e := m.Remove(0); e != api.ErrNone {
		t.Errorf("remove of none: %d", e)
	}
	if p, e := m.Locate(api.Point{}); p != (api.Place{Of: [3]int{-1, -1, -1}}) || e != api.OK {
		t.Errorf("locate among none: %v, %d", p, e)
	}
}

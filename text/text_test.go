package text_test

import (
	"slices"
	"testing"

	"trigon/api"
	"trigon/text"
)

func TestFaultTellsTheFirstThatApplies(t *testing.T) {
	many := make([]api.Point, api.MaxPoints+1)
	far := []api.Point{{}, {Y: -api.MaxCoord - 1}}
	same := []api.Point{{}, {}}
	none := []api.Tri{{0, 1, 0}, {0, 1, 2}}
	for _, c := range []struct {
		l    []api.Point
		t    []api.Tri
		want api.Errno
	}{
		{nil, nil, api.OK}, {same, nil, api.OK}, {same, none[:1], api.OK}, {many[1:], []api.Tri{{59, 0, 59}}, api.OK},
		{many, none, api.ErrMany}, {append(many, far...), none, api.ErrMany}, {far, none, api.ErrFar}, {far, nil, api.ErrFar},
		{same, none, api.ErrNone}, {same, []api.Tri{{-1, 0, 0}}, api.ErrNone}, {nil, []api.Tri{{}}, api.ErrNone},
	} {
		if got := text.Fault(c.l, c.t); got != c.want {
			t.Errorf("Fault(%v, %v) = %d, want %d", c.l, c.t, got, c.want)
		}
	}
}

func TestReadOfWrite(t *testing.T) {
	l, c := []api.Point{{X: -8000, Y: 0}, {X: 10, Y: -1}}, []api.Tri{{1, 0, 1}, {0, 0, 0}}
	const want = "2\n-8000 0\n10 -1\n2\n1 0 1\n0 0 0\n"
	s := text.Write(l, c)
	if s != want {
		t.Errorf("Write: %q", s)
	}
	gotL, gotC, line := text.Read(s)
	if !slices.Equal(gotL, l) || !slices.Equal(gotC, c) || line != 0 {
		t.Errorf("Read: %v, %v, %d", gotL, gotC, line)
	}
}

func TestReadTellsTheFirstWrongLine(t *testing.T) {
	for _, c := range []struct {
		s    string
		line int
	}{
		{"", 1}, {"61\n", 1}, {"1\n0 8001\n", 2}, {"1\n0 0\n", 3}, {"0\n1\n", 2}, {"1\n0 0\n1\n0 0 1\n", 4}, {"1\n0 0\n1\n0 0 0", 4}, {"1\n0 0\n1\n0 0 0\n\n", 5},
	} {
		if l, tri, line := text.Read(c.s); l != nil || tri != nil || line != c.line {
			t.Errorf("Read(%q) = %v, %v, %d, want the line %d", c.s, l, tri, line, c.line)
		}
	}
}

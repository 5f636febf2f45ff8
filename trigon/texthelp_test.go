package trigon_test

import (
	"fmt"
	"math"
	"math/big"
	"math/rand"
	"slices"
	"strings"
	"testing"

	"trigon/api"
	"trigon/trigon"
)

// written: points and triangles, and their text.
type written struct {
	l []api.Point
	t []api.Tri
	s string
}

// textOf: the text by another road than Write's.
func textOf(l []api.Point, t []api.Tri) string {
	s := fmt.Sprintf("%d\n", len(l))
	for _, p := range l {
		s += fmt.Sprintf("%d %d\n", p.X, p.Y)
	}
	s += fmt.Sprintf("%d\n", len(t))
	for _, c := range t {
		s += fmt.Sprintf("%d %d %d\n", c[0], c[1], c[2])
	}
	return s
}

// goodTexts: none, one, the most; the same points twice; triangles in any order, with the same number twice or thrice.
func goodTexts() []written {
	at := pts(0, 0, 4, 0, 0, 4)
	most := manyRound()[:api.MaxPoints]
	all, _ := trigon.Triangulate(most)
	return []written{
		{nil, nil, "0\n0\n"},
		{[]api.Point{}, []api.Tri{}, "0\n0\n"},
		{pts(0, 0), nil, "1\n0 0\n0\n"},
		{pts(0, 0), []api.Tri{{0, 0, 0}}, "1\n0 0\n1\n0 0 0\n"},
		{at, nil, "3\n0 0\n4 0\n0 4\n0\n"},
		{at, []api.Tri{{0, 1, 2}}, "3\n0 0\n4 0\n0 4\n1\n0 1 2\n"},
		{at, []api.Tri{{2, 1, 0}, {0, 2, 2}, {2, 1, 0}}, "3\n0 0\n4 0\n0 4\n3\n2 1 0\n0 2 2\n2 1 0\n"},
		{pts(-8000, 8000, 8000, -8000), nil, "2\n-8000 8000\n8000 -8000\n0\n"},
		{pts(-1, 10, -10, 100, 1000, -100, -1, 10), []api.Tri{{3, 3, 3}}, "4\n-1 10\n-10 100\n1000 -100\n-1 10\n1\n3 3 3\n"},
		{most, all, textOf(most, all)},
		{make([]api.Point, 60), []api.Tri{{59, 0, 10}}, "60\n" + strings.Repeat("0 0\n", 60) + "1\n59 0 10\n"},
	}
}

// someWritten: points, some of them the same, and triangles without any order.
func someWritten(r *rand.Rand, points, triangles, size int) written {
	var l []api.Point
	for range points {
		l = append(l, somePoint(r, size))
	}
	var t []api.Tri
	for range triangles {
		if points > 0 {
			t = append(t, api.Tri{r.Intn(points), r.Intn(points), r.Intn(points)})
		}
	}
	return written{l, t, textOf(l, t)}
}

// wrongLine: the first line by which a text is none, 0 if it is one. It holds each line against the words that it may have.
func wrongLine(s string) int {
	lines := strings.SplitAfter(s, "\n")
	at := 0
	take := func(many int, least, most int64) (int64, bool) {
		at++
		if at > len(lines) || !strings.HasSuffix(lines[at-1], "\n") {
			return 0, false
		}
		words := strings.Split(strings.TrimSuffix(lines[at-1], "\n"), " ")
		ok := len(words) == many
		var first int64
		for i := len(words) - 1; ok && i >= 0; i-- {
			first, ok = wordNumber(words[i], least, most)
		}
		return first, ok
	}
	points, ok := take(1, 0, 60)
	for i := int64(0); ok && i < points; i++ {
		_, ok = take(2, -8000, 8000)
	}
	if !ok {
		return at
	}
	most := int64(math.MaxInt64)
	if points == 0 {
		most = 0
	}
	triangles, ok := take(1, 0, most)
	for i := int64(0); ok && i < triangles; i++ {
		_, ok = take(3, 0, points-1)
	}
	if !ok {
		return at
	}
	if strings.Join(lines[at:], "") != "" {
		return at + 1
	}
	return 0
}

// wordNumber looks at each byte of a word, and reckons with numbers of any size.
func wordNumber(word string, least, most int64) (int64, bool) {
	bare := strings.TrimPrefix(word, "-")
	if bare == "" || bare != word && bare == "0" || len(bare) > 1 && bare[0] == '0' {
		return 0, false
	}
	n := new(big.Int)
	for _, c := range []byte(bare) {
		if c < '0' || c > '9' {
			return 0, false
		}
		n.Add(n.Mul(n, big.NewInt(10)), big.NewInt(int64(c-'0')))
	}
	if bare != word {
		n.Neg(n)
	}
	return n.Int64(), n.Cmp(big.NewInt(least)) >= 0 && n.Cmp(big.NewInt(most)) <= 0
}

func wantText(t *testing.T, w written) {
	t.Helper()
	if s, e := trigon.Write(w.l, w.t); s != w.s || e != api.OK {
		t.Errorf("P11: Write(%v, %v) = %q, %d, want %q, 0", w.l, w.t, s, e, w.s)
	}
}

func wantNoText(t *testing.T, l []api.Point, c []api.Tri, want api.Errno) {
	t.Helper()
	if s, e := trigon.Write(l, c); s != "" || e != want {
		t.Errorf("P11: Write(%v, %v) = %q, %d, want nothing, %d", l, c, s, e, want)
	}
}

func wantRead(t *testing.T, w written) {
	t.Helper()
	l, c, e, line := trigon.Read(w.s)
	if !slices.Equal(l, w.l) || !slices.Equal(c, w.t) || e != api.OK || line != 0 {
		t.Errorf("P12: Read(%q) = %v, %v, %d, %d, want %v, %v, 0, 0", w.s, l, c, e, line, w.l, w.t)
	}
}

func wantWrong(t *testing.T, s string, want int) {
	t.Helper()
	if l, c, e, line := trigon.Read(s); l != nil || c != nil || e != api.ErrForm || line != want {
		t.Errorf("P12: Read(%.99q) = %v, %v, %d, %d, want nothing, %d, %d", s, l, c, e, line, api.ErrForm, want)
	}
}

// checkRead: whether it is a text or not; what Read takes, Write gives again.
func checkRead(t *testing.T, s string) {
	t.Helper()
	if line := wrongLine(s); line != 0 {
		wantWrong(t, s, line)
		return
	}
	l, c, e, line := trigon.Read(s)
	if e != api.OK || line != 0 {
		t.Errorf("P12: Read(%q) = %v, %v, %d, %d, want 0, 0", s, l, c, e, line)
	}
	if again, e := trigon.Write(l, c); again != s || e != api.OK {
		t.Errorf("P13: Write of Read(%q) = %q, %d", s, again, e)
	}
}

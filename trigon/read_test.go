package trigon_test

import (
	"math/rand"
	"slices"
	"strconv"
	"strings"
	"sync"
	"testing"

	"trigon/api"
	"trigon/trigon"
)

func TestReadOfGoodTexts(t *testing.T) {
	for _, w := range goodTexts() {
		wantRead(t, w)
		checkRead(t, w.s)
	}
}

func TestReadOfSomeTexts(t *testing.T) {
	r := rand.New(rand.NewSource(62))
	for _, size := range []int{1, 12, 150, 8000} {
		for points := range api.MaxPoints + 1 {
			wantRead(t, someWritten(r, points, r.Intn(150), size))
		}
	}
}

// Wherever a text ends too early, in a line or at its end, that line or the next one is wrong.
func TestReadOfTextsThatEndTooEarly(t *testing.T) {
	for _, w := range goodTexts() {
		for i := range w.s {
			wantWrong(t, w.s[:i], 1+strings.Count(w.s[:i], "\n"))
		}
	}
}

func TestReadOfWhatStandsBehind(t *testing.T) {
	for _, w := range goodTexts() {
		for _, more := range []string{"\n", " ", "0", "0\n", "0 0\n", "0 0 0\n", "x", "\x00", "\r\n", "\n\n\n", w.s} {
			wantWrong(t, w.s+more, 1+strings.Count(w.s, "\n"))
		}
	}
}

// wrongWords: none of them is a number as it is written; some of them would be taken by a reader that is not strict.
func wrongWords() []string {
	return []string{
		"", " ", "-", "+", "x", "-0", "00", "+0", "+1", "01", "-01", "--1", "1-", "1.", "1.0", "1e0", "0x1", "0b1", "0o1", "1_0", "_1",
		"1 ", " 1", "1\t", "\t1", "1\r", "\v1", "1\x00", "1,", "\xff", "1\u00a0", "\u0661", "\uff11", "\u22121", "\ufeff1", "1\u2028",
		"61x", "00000000001", strings.Repeat("0", 1000), strings.Repeat("1", 1000) + "x", "-" + strings.Repeat("0", 1000),
	}
}

// hugeNumbers: too great, or too small, for each place; some look like 0 or 1 if bits are lost.
func hugeNumbers() []string {
	return []string{
		"9223372036854775808", "9223372036854775809", "18446744073709551615", "18446744073709551616", "18446744073709551617",
		"36893488147419103232", "340282366920938463463374607431768211457", "10000000000000000000", strings.Repeat("9", 100000),
		"-9223372036854775808", "-9223372036854775809", "-18446744073709551615", "-18446744073709551616", "-" + strings.Repeat("9", 100000),
	}
}

// inEachPlace calls f with the text "2 points, 2 triangles" in which the word stands in place of one number, and with that number's line.
func inEachPlace(word string, f func(s string, line int)) {
	lines := [][]string{{"2"}, {"0", "1"}, {"1", "0"}, {"2"}, {"0", "1", "0"}, {"1", "0", "1"}}
	for i := range lines {
		for j, was := range lines[i] {
			lines[i][j] = word
			var s strings.Builder
			for _, words := range lines {
				s.WriteString(strings.Join(words, " ") + "\n")
			}
			f(s.String(), i+1)
			lines[i][j] = was
		}
	}
}

func TestReadOfWrongWords(t *testing.T) {
	for _, word := range append(wrongWords(), hugeNumbers()...) {
		inEachPlace(word, func(s string, line int) { wantWrong(t, s, line) })
	}
}

func TestReadOfNumbersOutOfBounds(t *testing.T) {
	for _, n := range farNumbers() {
		inEachPlace(strconv.Itoa(n), func(s string, line int) {
			if line == 4 && n >= 0 {
				line = 7
			}
			wantWrong(t, s, line)
		})
	}
	for n := -300; n <= 300; n++ {
		inEachPlace(strconv.Itoa(n), func(s string, _ int) { checkRead(t, s) })
	}
}

func TestReadOfEachCountOfPoints(t *testing.T) {
	for n := range 61 {
		wantRead(t, written{make([]api.Point, n), nil, strconv.Itoa(n) + "\n" + strings.Repeat("0 0\n", n) + "0\n"})
	}
	for n := 61; n < 600; n++ {
		wantWrong(t, strconv.Itoa(n)+"\n"+strings.Repeat("0 0\n", n)+"0\n", 1)
	}
}

// Without points only the count 0 of triangles can stand; with points any that there could be.
func TestReadOfCountsOfTriangles(t *testing.T) {
	for _, n := range []string{"1", "2", "60", "9223372036854775807"} {
		wantWrong(t, "0\n"+n+"\n", 2)
		wantWrong(t, "0\n"+n+"\n0 0 0\n", 2)
		wantWrong(t, "1\n5 5\n"+n, 3)
		wantWrong(t, "1\n5 5\n"+n+"\n", 4)
		wantWrong(t, "1\n5 5\n"+n+"\n0 0 1\n", 4)
		wantWrong(t, "1\n5 5\n"+n+"\n0 0 0", 4)
	}
	for _, n := range []string{"3", "2147483648", "4294967297", "1000000000000", "9223372036854775806", "9223372036854775807"} {
		wantWrong(t, "1\n5 5\n"+n+"\n0 0 0\n0 0 0\n", 6)
		wantWrong(t, "1\n5 5\n"+n+"\n0 0 0\n0 0 0\n\n", 6)
	}
}

func TestReadOfWrongBlanks(t *testing.T) {
	for s, line := range map[string]int{
		"1\n0\n0\n": 2, "1\n0 0 \n0\n": 2, "1\n 0 0\n0\n": 2, "1\n0  0\n0\n": 2, "1\n0\t0\n0\n": 2, "1\n0 0 0\n0\n": 2, "1\n00\n0\n": 2, "1\n0\n0\n0\n": 2,
		"1\n0 0\n1\n0 0\n": 4, "1\n0 0\n1\n0 0 0 \n": 4, "1\n0 0\n1\n0 0 0 0\n": 4, "1\n0 0\n1\n0 0  0\n": 4, "1\n0 0\n1\n 0 0 0\n": 4, "1\n0 0\n1\n\n0 0 0\n": 4,
		"1 0 0\n0\n": 1, "1\n\n0 0\n0\n": 2, "1\n0 0\n\n0\n": 3, "1\n0 0\n1 0 0 0\n": 3, "1\r0 0\r0\r": 1, "1\r\n0 0\r\n0\r\n": 1,
		"1\n" + strings.Repeat(" ", 100000) + "\n0\n": 2, "1\n0 0\n" + strings.Repeat("0 ", 100000) + "\n": 3,
	} {
		wantWrong(t, s, line)
	}
}

// allTexts calls f with each text of up to n of these bytes.
func allTexts(bytes string, n int, f func(s string)) {
	var grow func(s string)
	grow = func(s string) {
		f(s)
		for i := 0; len(s) < n && i < len(bytes); i++ {
			grow(s + bytes[i:i+1])
		}
	}
	grow("")
}

func TestReadOfAllShortTexts(t *testing.T) {
	allTexts("01 \n-", 7, func(s string) { checkRead(t, s) })
	allTexts("01 \n", 5, func(s string) {
		checkRead(t, "1\n0 0\n"+s)
		checkRead(t, "1\n0 0\n1\n0"+s)
		checkRead(t, "2\n-1 1\n"+s+"0\n")
	})
}

// damaged: s with a byte changed, put in or taken out, or a piece of it doubled, taken out or laid elsewhere.
func damaged(r *rand.Rand, s string) string {
	bytes := "0123456789- \n+x\r"
	from := r.Intn(len(s))
	to := from + r.Intn(min(9, len(s)-from)+1)
	at := r.Intn(len(s) + 1)
	b := bytes[r.Intn(len(bytes)):][:1]
	switch r.Intn(6) {
	case 0:
		return s[:from] + b + s[from+1:]
	case 1:
		return s[:at] + b + s[at:]
	case 2:
		return s[:from] + s[from+1:]
	case 3:
		return s[:to] + s[from:]
	case 4:
		return s[:from] + s[to:]
	}
	return s[:at] + s[from:to] + s[at:]
}

func TestReadOfDamagedTexts(t *testing.T) {
	r := rand.New(rand.NewSource(63))
	for range 20000 {
		s := someWritten(r, r.Intn(6), r.Intn(5), []int{3, 20, 8000}[r.Intn(3)]).s
		for range 1 + r.Intn(3) {
			if s != "" {
				s = damaged(r, s)
			}
		}
		checkRead(t, s)
	}
}

func TestReadOfAnyBytes(t *testing.T) {
	r := rand.New(rand.NewSource(64))
	for range 2000 {
		b := make([]byte, r.Intn(40))
		r.Read(b)
		checkRead(t, string(b))
		checkRead(t, "1\n0 0\n"+string(b))
	}
	for b := range 256 {
		for _, s := range []string{"1\n0 0\n1\n0 0 0\n", "2\n-5 4\n8000 -1\n0\n"} {
			for i := range s {
				checkRead(t, s[:i]+string([]byte{byte(b)})+s[i:])
				checkRead(t, s[:i]+string([]byte{byte(b)})+s[i+1:])
			}
		}
	}
}

// What a mesh or Triangulate tells can be written and read again.
func TestReadOfTriangulations(t *testing.T) {
	for _, l := range goodLists() {
		c, _ := trigon.Triangulate(l)
		s, e := trigon.Write(l, c)
		if e != api.OK {
			t.Errorf("P11: Write(%v, %v): %d", l, c, e)
		}
		wantRead(t, written{l, c, s})
	}
}

// Whatever is written over one answer, and behind it, other answers stay, and so do the two lists of one.
func TestReadGivesNewMemory(t *testing.T) {
	for _, w := range goodTexts() {
		l, c, _, _ := trigon.Read(w.s)
		other, otherC, _, _ := trigon.Read(w.s)
		l = l[:cap(l)]
		for i := range l {
			l[i] = pt(-5, 9999)
		}
		if !slices.Equal(c, w.t) {
			t.Errorf("P2: of %q: writing into the points changed the triangles: %v", w.s, c)
		}
		c = c[:cap(c)]
		for i := range c {
			c[i] = api.Tri{-5, -5, -5}
		}
		if !slices.Equal(other, w.l) || !slices.Equal(otherC, w.t) {
			t.Errorf("P2: of %q: writing into one answer changed another: %v, %v", w.s, other, otherC)
		}
		wantRead(t, w)
		if slices.ContainsFunc(l, func(p api.Point) bool { return p != pt(-5, 9999) }) {
			t.Errorf("P2: of %q: a later call wrote into an earlier answer: %v", w.s, l)
		}
		if slices.ContainsFunc(c, func(c api.Tri) bool { return c != api.Tri{-5, -5, -5} }) {
			t.Errorf("P2: of %q: a later call wrote into an earlier answer: %v", w.s, c)
		}
	}
}

func TestTextsAtTheSameTime(t *testing.T) {
	var group sync.WaitGroup
	for _, w := range goodTexts() {
		group.Go(func() {
			for range 100 {
				wantText(t, w)
				wantRead(t, w)
				wantWrong(t, w.s+"\n", 1+strings.Count(w.s, "\n"))
			}
		})
	}
	group.Wait()
}

package trigon_test

import (
	"math/big"
	"math/rand"
	"testing"

	"trigon/api"
	"trigon/trigon"
)

// wantCircle finds the circle's middle and holds the distances from it against each other: not the document's formula.
func wantCircle(a, b, c, d api.Point) int {
	if wantSide(a, b, c) == 0 {
		return 0
	}
	// Counted from a, the middle is (mx/w, my/w).
	bx, by, cx, cy := int64(b.X-a.X), int64(b.Y-a.Y), int64(c.X-a.X), int64(c.Y-a.Y)
	b2, c2 := big.NewInt(bx*bx+by*by), big.NewInt(cx*cx+cy*cy)
	times := func(n *big.Int, f int64) *big.Int { return new(big.Int).Mul(n, big.NewInt(f)) }
	mx := new(big.Int).Sub(times(b2, cy), times(c2, by))
	my := new(big.Int).Sub(times(c2, bx), times(b2, cx))
	w := big.NewInt(2 * (bx*cy - by*cx))
	distance := func(x, y int) *big.Int {
		ox := new(big.Int).Sub(times(w, int64(x-a.X)), mx)
		oy := new(big.Int).Sub(times(w, int64(y-a.Y)), my)
		return new(big.Int).Add(ox.Mul(ox, ox), oy.Mul(oy, oy))
	}
	return distance(a.X, a.Y).Cmp(distance(d.X, d.Y))
}

func checkCircle(t *testing.T, a, b, c, d api.Point) {
	t.Helper()
	want := wantCircle(a, b, c, d)
	if n, e := trigon.InCircle(a, b, c, d); n != want || e != api.OK {
		t.Fatalf("P4: InCircle(%v, %v, %v, %v) = %d, %d, want %d, 0", a, b, c, d, n, e, want)
	}
}

func TestInCircleExamples(t *testing.T) {
	for _, c := range []struct {
		a, b, c, d api.Point
		want       int
	}{
		{pt(0, 0), pt(4, 0), pt(0, 4), pt(4, 4), 0},
		{pt(0, 0), pt(4, 0), pt(0, 4), pt(1, 1), 1},
		{pt(0, 0), pt(4, 0), pt(0, 4), pt(5, 5), -1},
		{pt(0, 0), pt(4, 0), pt(0, 4), pt(4, 0), 0},
		{pt(0, 0), pt(2, 1), pt(4, 2), pt(1, 1), 0},
		{pt(0, 0), pt(2, 1), pt(4, 2), pt(2, 1), 0},
		{pt(0, 0), pt(4, 0), pt(4, 0), pt(2, 0), 0},
		{pt(4, 0), pt(0, 0), pt(4, 0), pt(2, 1), 0},
		{pt(4, 0), pt(4, 0), pt(0, 0), pt(2, 1), 0},
		{pt(3, 3), pt(3, 3), pt(3, 3), pt(3, 3), 0},
		{pt(3, 3), pt(3, 3), pt(3, 3), pt(3, 4), 0},
		{pt(-8000, -8000), pt(8000, -8000), pt(8000, 8000), pt(-8000, 8000), 0},
		{pt(-8000, -8000), pt(8000, -8000), pt(8000, 8000), pt(-7999, 8000), 1},
		{pt(-8000, -7999), pt(8000, -7999), pt(8000, 8000), pt(-8000, -8000), -1},
		{pt(-8000, -8000), pt(-7999, -8000), pt(-8000, -7999), pt(8000, 8000), -1},
		{pt(-8000, 7999), pt(8000, 7999), pt(0, 8000), pt(0, -8000), 1},
		{pt(-8000, 8000), pt(8000, 8000), pt(0, 7999), pt(0, -8000), -1},
	} {
		if n, e := trigon.InCircle(c.a, c.b, c.c, c.d); n != c.want || e != api.OK {
			t.Errorf("P4: InCircle(%v, %v, %v, %v) = %d, %d, want %d, 0", c.a, c.b, c.c, c.d, n, e, c.want)
		}
	}
}

func TestInCircleOfAllNearPoints(t *testing.T) {
	l := append(grid(1), pt(0, 2), pt(2, 3))
	for _, a := range l {
		for _, b := range l {
			for _, c := range l {
				for _, d := range l {
					checkCircle(t, a, b, c, d)
				}
			}
		}
	}
}

func TestInCircleAtTheEdges(t *testing.T) {
	var l []api.Point
	for _, x := range []int{-8000, 0, 8000} {
		for _, y := range []int{-8000, -7999, 7999, 8000} {
			l = append(l, pt(x, y))
		}
	}
	for _, a := range l {
		for _, b := range l {
			for _, c := range l {
				for _, d := range l {
					checkCircle(t, a, b, c, d)
				}
			}
		}
	}
}

func TestInCircleOfSomePoints(t *testing.T) {
	r := rand.New(rand.NewSource(5))
	for range 20000 {
		checkCircle(t, somePoint(r, 8000), somePoint(r, 8000), somePoint(r, 8000), somePoint(r, 8000))
		// Corners of a square that stands askew, the last one a step aside or not.
		m, s, off := somePoint(r, 3999), somePoint(r, 2000), somePoint(r, 1)
		a, c := pt(m.X+s.X, m.Y+s.Y), pt(m.X-s.X, m.Y-s.Y)
		b, d := pt(m.X-s.Y, m.Y+s.X), pt(m.X+s.Y+off.X, m.Y-s.X+off.Y)
		checkCircle(t, a, b, c, d)
		checkCircle(t, c, b, a, d)
		checkCircle(t, a, m, c, d)
	}
}

func TestInCircleWithPointsOnOneCircle(t *testing.T) {
	// All whole points that are 65 times 100 from (7 -9).
	var l []api.Point
	for _, s := range pts(65, 0, 63, 16, 60, 25, 56, 33, 52, 39) {
		for _, f := range pts(1, 1, 1, -1, -1, 1, -1, -1) {
			l = append(l, pt(7+100*f.X*s.X, -9+100*f.Y*s.Y), pt(7+100*f.X*s.Y, -9+100*f.Y*s.X))
		}
	}
	r := rand.New(rand.NewSource(6))
	for range 5000 {
		a, b, c, d := l[r.Intn(len(l))], l[r.Intn(len(l))], l[r.Intn(len(l))], l[r.Intn(len(l))]
		if n, e := trigon.InCircle(a, b, c, d); n != 0 || e != api.OK {
			t.Fatalf("P4: InCircle(%v, %v, %v, %v) = %d, %d, want 0, 0", a, b, c, d, n, e)
		}
	}
}

// circlesByAHair: four points each, of which the document's sum is below 200, either way, though its parts are so great that floats would lose it.
func circlesByAHair() [][]api.Point {
	return [][]api.Point{
		pts(-2000, 3235, 1881, -4060, -1764, 4677, 6695, -5057),
		pts(7326, -4690, 7204, -2916, 5748, -3331, 5776, -3283),
		pts(5356, -3075, 1578, 2771, -331, 2977, -4359, -5363),
		pts(7542, -6204, 2431, -1003, 2211, -557, 4746, -4138),
		pts(7042, 3184, -4003, -459, 5855, 3230, 187, 2117),
		pts(6882, 586, 7251, 2592, 2624, -7170, 7140, 7546),
		pts(-2451, -692, 4157, -2654, -1050, -3945, 4415, -1929),
		pts(2581, 1805, 2482, 4097, -2083, -5370, 1025, 7684),
		pts(5079, -631, 740, -1424, 7953, -5850, 215, -7741),
		pts(-5814, 3973, 3870, 3481, 2611, -6399, -7034, -4200),
		pts(-5061, -7486, 2969, -7174, -5050, -7484, 825, -7035),
		pts(-5849, 7630, 1081, 7535, -5029, -312, 2531, 4617),
	}
}

func TestInCircleByAHair(t *testing.T) {
	for _, l := range circlesByAHair() {
		permutations(func(i, j, k, _ int) { checkCircle(t, l[i], l[j], l[k], l[3]) })
		if n, _ := trigon.InCircle(l[0], l[1], l[2], l[3]); n == 0 {
			t.Errorf("P4: InCircle(%v) = 0, but they are not on one circle", l)
		}
	}
}

func TestInCircleOfGreatRectangles(t *testing.T) {
	r := rand.New(rand.NewSource(12))
	for range 50000 {
		a, way, long, wide := somePoint(r, 8000), somePoint(r, 300), r.Intn(50)+1, r.Intn(50)+1
		b := pt(a.X+long*way.X, a.Y+long*way.Y)
		c := pt(b.X-wide*way.Y, b.Y+wide*way.X)
		d := pt(a.X-wide*way.Y, a.Y+wide*way.X)
		if max(b.X, -b.X, b.Y, -b.Y, c.X, -c.X, c.Y, -c.Y, d.X, -d.X, d.Y, -d.Y) > api.MaxCoord {
			continue
		}
		for _, l := range [][]api.Point{{a, b, c, d}, {b, a, d, c}} {
			if n, e := trigon.InCircle(l[0], l[1], l[2], l[3]); n != 0 || e != api.OK {
				t.Fatalf("P4: InCircle(%v) = %d, %d, want 0, 0", l, n, e)
			}
		}
	}
}

func TestInCircleStaysHoweverOrdered(t *testing.T) {
	r := rand.New(rand.NewSource(7))
	for range 2000 {
		size := []int{2, 8000}[r.Intn(2)]
		l := []api.Point{somePoint(r, size), somePoint(r, size), somePoint(r, size)}
		d := somePoint(r, size)
		want, _ := trigon.InCircle(l[0], l[1], l[2], d)
		permutations(func(i, j, k, _ int) {
			if n, e := trigon.InCircle(l[i], l[j], l[k], d); n != want || e != api.OK {
				t.Fatalf("P13: InCircle(%v, %v, %v, %v) = %d, %d, want %d, 0", l[i], l[j], l[k], d, n, e, want)
			}
		})
	}
}

func TestInCircleTooFarOut(t *testing.T) {
	for _, l := range [][]api.Point{pts(0, 0, 4, 0, 0, 4, 1, 1), pts(0, 0, 1, 1, 2, 2, 1, 0), pts(3, 3, 3, 3, 3, 3, 3, 3)} {
		withFar(l, func(l []api.Point) {
			if n, e := trigon.InCircle(l[0], l[1], l[2], l[3]); n != 0 || e != api.ErrFar {
				t.Fatalf("P4: InCircle(%v) = %d, %d, want 0, 1", l, n, e)
			}
		})
	}
	for _, x := range farNumbers() {
		for _, y := range farNumbers() {
			if n, e := trigon.InCircle(pt(x, y), pt(y, x), pt(x, x), pt(y, y)); n != 0 || e != api.ErrFar {
				t.Fatalf("P1: InCircle with %d and %d = %d, %d, want 0, 1", x, y, n, e)
			}
		}
	}
}

package trigon_test

import (
	"math/big"
	"math/rand"
	"testing"

	"trigon/api"
	"trigon/trigon"
)

// wantSide: the sign of what the document tells of sides, in numbers of any size.
func wantSide(a, b, c api.Point) int {
	sub := func(x, y int) *big.Int { return new(big.Int).Sub(big.NewInt(int64(x)), big.NewInt(int64(y))) }
	mul := func(x, y *big.Int) *big.Int { return new(big.Int).Mul(x, y) }
	one := mul(sub(b.X, a.X), sub(c.Y, a.Y))
	return one.Cmp(mul(sub(b.Y, a.Y), sub(c.X, a.X)))
}

func checkOrient(t *testing.T, a, b, c api.Point) {
	t.Helper()
	want := wantSide(a, b, c)
	if n, e := trigon.Orient(a, b, c); n != want || e != api.OK {
		t.Fatalf("P3: Orient(%v, %v, %v) = %d, %d, want %d, 0", a, b, c, n, e, want)
	}
}

func TestOrientExamples(t *testing.T) {
	for _, c := range []struct {
		a, b, c api.Point
		want    int
	}{
		{pt(0, 0), pt(4, 0), pt(0, 3), 1},
		{pt(0, 0), pt(2, 1), pt(4, 2), 0},
		{pt(0, 0), pt(0, 3), pt(4, 0), -1},
		{pt(1, 1), pt(1, 1), pt(1, 1), 0},
		{pt(1, 1), pt(1, 1), pt(5, 2), 0},
		{pt(1, 1), pt(5, 2), pt(1, 1), 0},
		{pt(5, 2), pt(1, 1), pt(1, 1), 0},
		{pt(-8000, -8000), pt(8000, 8000), pt(0, 0), 0},
		{pt(-8000, -8000), pt(8000, 7999), pt(0, 0), 1},
		{pt(-8000, -8000), pt(7999, 8000), pt(0, 0), -1},
		{pt(-8000, -8000), pt(8000, -8000), pt(8000, 8000), 1},
		{pt(-8000, -8000), pt(8000, 8000), pt(8000, -8000), -1},
	} {
		if n, e := trigon.Orient(c.a, c.b, c.c); n != c.want || e != api.OK {
			t.Errorf("P3: Orient(%v, %v, %v) = %d, %d, want %d, 0", c.a, c.b, c.c, n, e, c.want)
		}
	}
}

func TestOrientOfAllNearPoints(t *testing.T) {
	l := grid(2)
	for _, a := range l {
		for _, b := range l {
			for _, c := range l {
				checkOrient(t, a, b, c)
			}
		}
	}
}

func TestOrientAtTheEdges(t *testing.T) {
	var l []api.Point
	for _, x := range edgeNumbers() {
		for _, y := range edgeNumbers() {
			l = append(l, pt(x, y))
		}
	}
	for _, a := range l {
		for _, b := range l {
			for _, c := range l {
				checkOrient(t, a, b, c)
			}
		}
	}
}

func TestOrientOfSomePoints(t *testing.T) {
	r := rand.New(rand.NewSource(3))
	for range 20000 {
		checkOrient(t, somePoint(r, 8000), somePoint(r, 8000), somePoint(r, 8000))
		// Nearly on one line, or on it.
		a, b, off := somePoint(r, 2000), somePoint(r, 2000), somePoint(r, 1)
		checkOrient(t, a, b, pt(2*b.X-a.X+off.X, 2*b.Y-a.Y+off.Y))
	}
}

func TestOrientTurnsWithItsPoints(t *testing.T) {
	r := rand.New(rand.NewSource(4))
	for range 2000 {
		l := []api.Point{somePoint(r, 8000), somePoint(r, 8000), somePoint(r, 8000)}
		want, _ := trigon.Orient(l[0], l[1], l[2])
		permutations(func(i, j, k, turn int) {
			if n, e := trigon.Orient(l[i], l[j], l[k]); n != turn*want || e != api.OK {
				t.Fatalf("P13: Orient(%v, %v, %v) = %d, %d, want %d, 0", l[i], l[j], l[k], n, e, turn*want)
			}
		})
	}
}

func TestOrientTooFarOut(t *testing.T) {
	for _, l := range [][]api.Point{pts(0, 0, 4, 0, 0, 3), pts(1, 1, 1, 1, 1, 1), pts(8000, 8000, -8000, 8000, 0, -8000)} {
		withFar(l, func(l []api.Point) {
			if n, e := trigon.Orient(l[0], l[1], l[2]); n != 0 || e != api.ErrFar {
				t.Fatalf("P3: Orient(%v) = %d, %d, want 0, 1", l, n, e)
			}
		})
	}
	for _, x := range farNumbers() {
		for _, y := range farNumbers() {
			if n, e := trigon.Orient(pt(x, y), pt(y, x), pt(x, x)); n != 0 || e != api.ErrFar {
				t.Fatalf("P1: Orient with %d and %d = %d, %d, want 0, 1", x, y, n, e)
			}
		}
	}
}

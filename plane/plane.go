// Package plane: how points lie to each other, in whole numbers.
package plane

import "trigon/api"

// Ask is how whatever joins points asks of them: by their numbers, so that it never sees where they are.
type Ask struct {
	// Side: 1, if the third lies left of the first to the second, -1, if right, 0, if they are on one line.
	Side func(a, b, c int) int
	// Circle: 1, if the fourth lies within the circle through the others, -1, if outside, 0, if on it or if there is no circle.
	Circle func(a, b, c, d int) int
}

// AskOf asks of the points of a list, by their places in it. It reads the list whenever it is asked.
// None of the points may be too far out.
func AskOf(l []api.Point) Ask {
	return Ask{
		Side:   func(a, b, c int) int { return side(l[a], l[b], l[c]) },
		Circle: func(a, b, c, d int) int { return circle(l[a], l[b], l[c], l[d]) },
	}
}

// step is the way from one point to another. Its numbers are of 64 bits on every machine, for circle needs 60:
// it adds three products of two factors, each factor up to 2 (2 MaxCoord)^2.
type step struct {
	x, y int64
}

func stepFrom(a, b api.Point) step {
	return step{int64(b.X) - int64(a.X), int64(b.Y) - int64(a.Y)}
}

func (s step) cross(t step) int64 { return s.x*t.y - s.y*t.x }

func (s step) square() int64 { return s.x*s.x + s.y*s.y }

// Apart gives the square of the distance between two points, for that is a whole number. Neither may be too far out.
func Apart(a, b api.Point) int64 {
	return stepFrom(a, b).square()
}

func side(a, b, c api.Point) int {
	return sign(stepFrom(a, b).cross(stepFrom(a, c)))
}

func circle(a, b, c, d api.Point) int {
	s, t, u := stepFrom(d, a), stepFrom(d, b), stepFrom(d, c)
	sum := s.square()*t.cross(u) + t.square()*u.cross(s) + u.square()*s.cross(t)
	// The sum turns about with the order of a, b, c; their side turns it back.
	return side(a, b, c) * sign(sum)
}

func sign(n int64) int {
	switch {
	case n > 0:
		return 1
	case n < 0:
		return -1
	}
	return 0
}

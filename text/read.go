package text

import (
	"math"
	"strconv"
	"strings"

	"trigon/api"
)

// lines: what of a text is not yet read, and the number of the line that was read last.
type lines struct {
	rest string
	line int
}

// Read gives the points and triangles that a text is written of, and 0; or none, and the first line by which the text is none.
func Read(s string) ([]api.Point, []api.Tri, int) {
	r := lines{rest: s}
	l, ok := r.points()
	if !ok {
		return nil, nil, r.line
	}
	t, ok := r.triangles(len(l))
	if !ok {
		return nil, nil, r.line
	}
	if r.rest != "" {
		return nil, nil, r.line + 1
	}
	return l, t, 0
}

func (r *lines) points() ([]api.Point, bool) {
	count, ok := r.next(1, 0, api.MaxPoints)
	if !ok {
		return nil, false
	}
	var l []api.Point
	for range count[0] {
		n, ok := r.next(2, -api.MaxCoord, api.MaxCoord)
		if !ok {
			return nil, false
		}
		l = append(l, api.Point{X: int(n[0]), Y: int(n[1])})
	}
	return l, true
}

// The list grows line by line, for the text may promise more triangles than there is room for.
func (r *lines) triangles(points int) ([]api.Tri, bool) {
	count, ok := r.next(1, 0, mostTriangles(points))
	if !ok {
		return nil, false
	}
	var t []api.Tri
	for range count[0] {
		n, ok := r.next(3, 0, int64(points)-1)
		if !ok {
			return nil, false
		}
		t = append(t, api.Tri{int(n[0]), int(n[1]), int(n[2])})
	}
	return t, true
}

// Without points there is no number that a triangle could have.
func mostTriangles(points int) int64 {
	if points == 0 {
		return 0
	}
	return math.MaxInt64
}

// next reads a line of so many numbers, one to three, none below least or above most.
func (r *lines) next(many int, least, most int64) ([3]int64, bool) {
	r.line++
	line, rest, ended := strings.Cut(r.rest, "\n")
	if !ended {
		return [3]int64{}, false
	}
	r.rest = rest
	return numbers(line, many, least, most)
}

// The last word is all that is left of the line, so that a blank too many is no number.
func numbers(line string, many int, least, most int64) ([3]int64, bool) {
	var found [3]int64
	for i := range many {
		word := line
		if i < many-1 {
			word, line, _ = strings.Cut(line, " ")
		}
		n, ok := number(word)
		if !ok || n < least || n > most {
			return found, false
		}
		found[i] = n
	}
	return found, true
}

// A word that is not written as its number would be (+1, 01, -0) is none.
func number(word string) (int64, bool) {
	n, err := strconv.ParseInt(word, 10, 64)
	return n, err == nil && strconv.FormatInt(n, 10) == word
}

package trigon_test

import (
	"math"
	"math/rand"

	"trigon/api"
	"trigon/trigon"
)

// What is given stays as it is: these stop compiling if a signature changes.
var (
	_ func(a, b, c api.Point) (int, api.Errno)                 = trigon.Orient
	_ func(a, b, c, d api.Point) (int, api.Errno)              = trigon.InCircle
	_ func(l []api.Point) ([]int, api.Errno)                   = trigon.Hull
	_ func(l []api.Point) ([]api.Tri, api.Errno)               = trigon.Triangulate
	_ func() *trigon.Mesh                                      = trigon.NewMesh
	_ func(m *trigon.Mesh, p api.Point) (int, api.Errno)       = (*trigon.Mesh).Insert
	_ func(m *trigon.Mesh, n int) api.Errno                    = (*trigon.Mesh).Remove
	_ func(m *trigon.Mesh) []api.Tri                           = (*trigon.Mesh).Triangles
	_ func(m *trigon.Mesh, p api.Point) (api.Place, api.Errno) = (*trigon.Mesh).Locate
	_ func(m *trigon.Mesh, p api.Point) (int, api.Errno)       = (*trigon.Mesh).Nearest
	_ func(l []api.Point, t []api.Tri) (string, api.Errno)     = trigon.Write
	_ func(s string) ([]api.Point, []api.Tri, api.Errno, int)  = trigon.Read
)

func pt(x, y int) api.Point { return api.Point{X: x, Y: y} }

// pts: a list of points from their numbers, two by two.
func pts(n ...int) []api.Point {
	l := []api.Point{}
	for i := 0; i < len(n); i += 2 {
		l = append(l, pt(n[i], n[i+1]))
	}
	return l
}

// farNumbers: numbers that are too far out; some of them look near if bits are lost, or have no opposite.
func farNumbers() []int {
	l := []int{8001, -8001, 8002, -8002, 16000, -16000, 65536, -65536, math.MaxInt, math.MinInt, math.MaxInt - 1, math.MinInt + 1}
	for bit := 13; bit < 63; bit++ {
		l = append(l, 1<<bit, -1<<bit, 1<<bit+1, -1<<bit-1)
	}
	return append(l, 1<<13-1, -1<<13+1)
}

// withFar calls f with each list that l becomes when one of its numbers is too far out.
func withFar(l []api.Point, f func(l []api.Point)) {
	for i, was := range l {
		for _, n := range farNumbers() {
			for _, p := range []api.Point{pt(n, was.Y), pt(was.X, n)} {
				l[i] = p
				f(l)
			}
		}
		l[i] = was
	}
}

// edgeNumbers: the greatest and least that are not too far out, and those around nought.
func edgeNumbers() []int { return []int{-8000, -7999, -1, 0, 1, 7999, 8000} }

// grid: all points from -n to n.
func grid(n int) []api.Point {
	var l []api.Point
	for x := -n; x <= n; x++ {
		for y := -n; y <= n; y++ {
			l = append(l, pt(x, y))
		}
	}
	return l
}

// somePoint: one up to size from (0 0).
func somePoint(r *rand.Rand, size int) api.Point {
	return pt(r.Intn(2*size+1)-size, r.Intn(2*size+1)-size)
}

// differentPoints: n of them at most, no two the same.
func differentPoints(r *rand.Rand, n, size int) []api.Point {
	there := map[api.Point]bool{}
	var l []api.Point
	for range n {
		if p := somePoint(r, size); !there[p] {
			there[p] = true
			l = append(l, p)
		}
	}
	return l
}

// permutations calls f with each order of three numbers, and with 1 if they go round as 0, 1, 2 do, else -1.
func permutations(f func(i, j, k, turn int)) {
	for i := range 3 {
		f(i, (i+1)%3, (i+2)%3, 1)
		f(i, (i+2)%3, (i+1)%3, -1)
	}
}

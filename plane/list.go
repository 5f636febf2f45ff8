package plane

import (
	"cmp"
	"slices"

	"trigon/api"
)

// Fault tells what is wrong with a list of points: ErrMany, ErrFar or ErrTwice, the first of them that applies.
func Fault(l []api.Point) api.Errno {
	if e := LimitFault(l); e != api.OK {
		return e
	}
	if anyTwice(l) {
		return api.ErrTwice
	}
	return api.OK
}

// LimitFault tells what is wrong with a list in which points may be the same: ErrMany or ErrFar.
func LimitFault(l []api.Point) api.Errno {
	switch {
	case len(l) > api.MaxPoints:
		return api.ErrMany
	case AnyFar(l...):
		return api.ErrFar
	}
	return api.OK
}

// AnyFar tells whether one of the points is too far out.
func AnyFar(l ...api.Point) bool {
	return slices.ContainsFunc(l, isFar)
}

func isFar(p api.Point) bool {
	return isFarNumber(p.X) || isFarNumber(p.Y)
}

// Both ends are asked, for the least number has no opposite.
func isFarNumber(n int) bool {
	return n > api.MaxCoord || n < -api.MaxCoord
}

func anyTwice(l []api.Point) bool {
	order := Order(l)
	for i := 1; i < len(order); i++ {
		if l[order[i-1]] == l[order[i]] {
			return true
		}
	}
	return false
}

// Order gives the numbers of the points, those with lesser X first, of the same X those with lesser Y.
func Order(l []api.Point) []int {
	order := make([]int, len(l))
	for i := range order {
		order[i] = i
	}
	slices.SortFunc(order, func(a, b int) int {
		return cmp.Or(cmp.Compare(l[a].X, l[b].X), cmp.Compare(l[a].Y, l[b].Y))
	})
	return order
}

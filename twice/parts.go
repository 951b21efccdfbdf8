package twice

import (
	"slices"

	"junto/api"
	"junto/poly"
)

// maxThreshold is the largest threshold of a setup.
const maxThreshold = (api.MaxParties - 1) / 4

// hasForm reports whether l consists of n lists of at most n numbers; l may be anything.
func hasForm(l [][]uint64, n int) bool {
	return len(l) == n && !slices.ContainsFunc(l, func(f []uint64) bool { return len(f) > n })
}

// allBelow reports whether all elements of l are below p.
func allBelow(p uint64, l []uint64) bool {
	return !slices.ContainsFunc(l, func(x uint64) bool { return x >= p })
}

// checkShort returns ErrLimit if f has more than T + 1 coefficients, or ErrArg if one is not a field element.
func checkShort(s api.Setup, f []uint64) api.Errno {
	if len(f) > s.T+1 {
		return api.ErrLimit
	}
	if !allBelow(s.P, f) {
		return api.ErrArg
	}
	return api.OK
}

// valueAt returns the value at x of a polynomial that is computed from l. Neither l nor x has been checked; the
// polynomial is computed only if l is a mask.
func valueAt(s api.Setup, l [][]uint64, x uint64, polynomial func() ([]uint64, api.Errno)) (uint64, api.Errno) {
	if e := Check(s, l); e != api.OK {
		return 0, e
	}
	f, e := polynomial()
	if e != api.OK {
		return 0, e
	}
	return poly.Eval(s.P, f, x)
}

// whole returns f + x g_1 + x^2 g_2 + .., which is f + x (g_1 + x (g_2 + ..)).
func whole(p uint64, l [][]uint64) ([]uint64, api.Errno) {
	var sum []uint64
	for _, f := range slices.Backward(l) {
		next, e := poly.Add(p, f, timesX(sum))
		if e != api.OK {
			return nil, e
		}
		sum = next
	}
	return sum, api.OK
}

// timesX returns the product of x and f, with a trailing zero if f is the zero polynomial.
func timesX(f []uint64) []uint64 {
	return slices.Concat([]uint64{0}, f)
}

// minusMultiple returns f - k g.
func minusMultiple(p uint64, f []uint64, k uint64, g []uint64) ([]uint64, api.Errno) {
	multiple, e := poly.Scale(p, g, k)
	if e != api.OK {
		return nil, e
	}
	return poly.Sub(p, f, multiple)
}

// coefficient returns the coefficient of x^k in f, which is 0 after its end.
func coefficient(f []uint64, k int) uint64 {
	if k >= len(f) {
		return 0
	}
	return f[k]
}

// pointsOf returns the evaluation points of the parties of l.
func pointsOf(l []int) []uint64 {
	points := make([]uint64, len(l))
	for i, party := range l {
		points[i] = uint64(party)
	}
	return points
}

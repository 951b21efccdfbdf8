package poly

import (
	"junto/api"
	"junto/field"
)

// Through returns the polynomial of the smallest degree that passes through all points, or ErrTwice if two
// points have the same X.
func Through(p uint64, l []api.Point) ([]uint64, api.Errno) {
	if e := checkPoints(p, l); e != api.OK {
		return nil, e
	}
	// f passes through the points visited so far, where zero is 0. Adding a multiple of zero does not change
	// f there, so that the multiple can be chosen for the next point.
	var f []uint64
	zero := []uint64{1}
	for _, point := range l {
		here := value(p, zero, point.X)
		if here == 0 {
			return nil, api.ErrTwice
		}
		missing := (point.Y + p - value(p, f, point.X)) % p
		f = plus(p, f, missing*inverse(p, here)%p, zero)
		zero = product(p, zero, linear(p, point.X))
	}
	return f, api.OK
}

// Weights returns the factors with which values at xs are added to obtain the value at at, or ErrTwice if two
// elements of xs are equal.
func Weights(p uint64, xs []uint64, at uint64) ([]uint64, api.Errno) {
	if e := check(p, xs, maxTerms); e != api.OK {
		return nil, e
	}
	if at >= p {
		return nil, api.ErrArg
	}
	above, below := make([]uint64, len(xs)), make([]uint64, len(xs))
	for i, x := range xs {
		above[i], below[i] = distance(p, at, xs, i), distance(p, x, xs, i)
	}
	inverses, e := field.Inverses(p, below)
	if e != api.OK {
		return nil, api.ErrTwice
	}
	return termwise(p, above, inverses, field.Mul), api.OK
}

// Away returns the polynomial of the smallest degree that is 1 at 0 and 0 at all of xs, ErrZero if one of these
// is 0, or ErrTwice if two of them are equal.
func Away(p uint64, xs ...uint64) ([]uint64, api.Errno) {
	if e := check(p, xs, api.MaxDegree); e != api.OK {
		return nil, e
	}
	points := make([]api.Point, len(xs))
	for i, x := range xs {
		if x == 0 {
			return nil, api.ErrZero
		}
		points[i].X = x
	}
	return Through(p, append(points, api.Point{X: 0, Y: 1}))
}

// Roots returns the field elements at which f is 0, or ErrZero if f is the zero polynomial.
func Roots(p uint64, f []uint64) ([]uint64, api.Errno) {
	if e := check(p, f, maxTerms); e != api.OK {
		return nil, e
	}
	f = trim(f)
	if len(f) == 0 {
		return nil, api.ErrZero
	}
	// A polynomial has no more roots than its degree, so that the search can end when these are found.
	var roots []uint64
	for x := uint64(0); x < p && len(roots) < len(f)-1; x++ {
		if value(p, f, x) == 0 {
			roots = append(roots, x)
		}
	}
	return roots, api.OK
}

package decode

import (
	"junto/api"
	"junto/matrix"
	"junto/poly"
)

// correct returns the polynomial of degree at most d that passes through all points except at most wrong of them,
// and the indices of the points that are not on it, or ErrWrong if there is no such polynomial. There are at least
// d + 1 + 2 * wrong points, for which there is at most one such polynomial.
func correct(p uint64, d, wrong int, l []api.Point) ([]uint64, []int, api.Errno) {
	// Mostly the first points are right, and to interpolate them costs much less than to solve equations.
	f, e := poly.Through(p, l[:d+1])
	if e != api.OK {
		return nil, nil, e
	}
	if off := missed(p, f, l); len(off) <= wrong {
		return f, off, api.OK
	}
	f, e = ratio(p, d, wrong, l)
	if e != api.OK {
		return nil, nil, e
	}
	return f, missed(p, f, l), api.OK
}

// ratio returns the polynomial of correct by the method of Berlekamp and Welch.
//
// The locator is a polynomial of degree wrong that is 0 at every wrong point. The product of the polynomial and the
// locator is 0 there, too, so that at every point, right or wrong, it is Y times the locator. These equations are
// linear in the coefficients of the product and of the locator. Any solution will do: its product and the polynomial
// times its locator agree at all right points, which are more than the degree, so that they are equal. And if the
// locator divides the product, their ratio can miss a point only where the locator is 0.
func ratio(p uint64, d, wrong int, l []api.Point) ([]uint64, api.Errno) {
	left, right, e := equations(p, d, wrong, l)
	if e != api.OK {
		return nil, e
	}
	solution, e := matrix.Solve(p, left, right)
	if e != api.OK {
		return nil, api.ErrWrong
	}
	product, locator := solution[:d+1+wrong], append(solution[d+1+wrong:], 1)
	f, rest, e := poly.Divide(p, product, locator)
	if e != api.OK || len(rest) > 0 {
		return nil, api.ErrWrong
	}
	return f, api.OK
}

// equations returns one equation for each point. The unknowns are the coefficients of the product and those of the
// locator, except that the last one of the locator is 1, so that its term is on the right side.
func equations(p uint64, d, wrong int, l []api.Point) ([][]uint64, []uint64, api.Errno) {
	xs := make([]uint64, len(l))
	for i, point := range l {
		xs[i] = point.X
	}
	left, e := matrix.Powers(p, xs, d+1+wrong)
	if e != api.OK {
		return nil, nil, e
	}
	right := make([]uint64, len(l))
	for i, point := range l {
		powers := left[i]
		for _, power := range powers[:wrong] {
			left[i] = append(left[i], (p-point.Y)*power%p)
		}
		right[i] = point.Y * powers[wrong] % p
	}
	return left, right, api.OK
}

// missed returns the indices of the points that are not on f.
func missed(p uint64, f []uint64, l []api.Point) []int {
	var off []int
	for i, point := range l {
		if y, e := poly.Eval(p, f, point.X); e != api.OK || y != point.Y {
			off = append(off, i)
		}
	}
	return off
}

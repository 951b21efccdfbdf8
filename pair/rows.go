package pair

import (
	"slices"

	"junto/api"
	"junto/field"
	"junto/poly"
)

// Quarrels returns the indices i < k of every two rows for which the value of row i at xs[k] differs from the value
// of row k at xs[i].
func Quarrels(p uint64, xs []uint64, rows [][]uint64) ([][2]int, api.Errno) {
	polys, e := polynomials(p, xs, rows)
	if e != api.OK {
		return nil, e
	}
	var quarrels [][2]int
	for i := range polys {
		for k := i + 1; k < len(polys); k++ {
			if valueAt(p, polys[i], xs[k]) != valueAt(p, polys[k], xs[i]) {
				quarrels = append(quarrels, [2]int{i, k})
			}
		}
	}
	return quarrels, api.OK
}

// Join returns the pair whose Row at each x is the given row, ErrFew if too few rows are given for only one pair to
// have them, or ErrWrong if there is no such pair.
func Join(p uint64, t int, xs []uint64, rows [][]uint64) ([][]uint64, api.Errno) {
	if !isThreshold(t) {
		return nil, api.ErrArg
	}
	polys, e := polynomials(p, xs, rows)
	if e != api.OK {
		return nil, e
	}
	if len(xs) <= t {
		return nil, api.ErrFew
	}
	return joined(p, t, xs, polys)
}

// joined returns the pair of Join for at least t + 1 rows without trailing zeros.
//
// In the rows of a pair, the coefficient of y^k is a polynomial in x of degree at most t, whose coefficients are row
// k of the pair. So many points lead to only one polynomial, and if that is of a higher degree, or if the result is
// not symmetric, no pair has these rows.
func joined(p uint64, t int, xs []uint64, polys [][]uint64) ([][]uint64, api.Errno) {
	if slices.ContainsFunc(polys, func(row []uint64) bool { return len(row) > t+1 }) {
		return nil, api.ErrWrong
	}
	f := make([][]uint64, t+1)
	for k := range f {
		column, e := poly.Through(p, terms(xs, polys, k))
		if e != api.OK {
			return nil, e
		}
		if len(column) > t+1 {
			return nil, api.ErrWrong
		}
		f[k] = padded(column, t+1)
	}
	if !isSymmetric(f) {
		return nil, api.ErrWrong
	}
	return f, api.OK
}

// terms returns the coefficient of y^k in the row at each x.
func terms(xs []uint64, polys [][]uint64, k int) []api.Point {
	points := make([]api.Point, len(xs))
	for i, f := range polys {
		points[i].X = xs[i]
		if k < len(f) {
			points[i].Y = f[k]
		}
	}
	return points
}

// polynomials returns the rows without trailing zeros, or the first of the errors of Quarrels.
func polynomials(p uint64, xs []uint64, rows [][]uint64) ([][]uint64, api.Errno) {
	if e := checkPlaces(p, xs, len(rows)); e != api.OK {
		return nil, e
	}
	polys := make([][]uint64, len(rows))
	for i, row := range rows {
		f, e := poly.Trim(p, row)
		if e != api.OK {
			return nil, e
		}
		polys[i] = f
	}
	return polys, api.OK
}

// checkPlaces returns an error if p is not a prime, if there are too many xs or not as many as rows, or if they are
// not different field elements.
func checkPlaces(p uint64, xs []uint64, rows int) api.Errno {
	if !field.Is(p) {
		return api.ErrArg
	}
	if len(xs) > api.MaxParties {
		return api.ErrLimit
	}
	if len(xs) != rows || !allBelow(p, xs) {
		return api.ErrArg
	}
	for i, x := range xs {
		if slices.Contains(xs[:i], x) {
			return api.ErrTwice
		}
	}
	return api.OK
}

// valueAt returns the value of f at x, which have been checked.
func valueAt(p uint64, f []uint64, x uint64) uint64 {
	value, _ := poly.Eval(p, f, x)
	return value
}

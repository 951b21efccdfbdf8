package matrix

import (
	"slices"

	"junto/api"
	"junto/field"
)

// isSide reports whether a matrix can have n rows or columns.
func isSide(n int) bool {
	return n >= 1 && n <= api.MaxSide
}

// allBelow reports whether all elements of l are field elements.
func allBelow(p uint64, l []uint64) bool {
	return !slices.ContainsFunc(l, func(x uint64) bool { return x >= p })
}

// checkSquare returns the errors of Check, and then ErrArg if m is not square.
func checkSquare(p uint64, m [][]uint64) api.Errno {
	if e := Check(p, m); e != api.OK {
		return e
	}
	if len(m) != len(m[0]) {
		return api.ErrArg
	}
	return api.OK
}

// transposed returns the columns of m as rows.
func transposed(m [][]uint64) [][]uint64 {
	columns := make([][]uint64, len(m[0]))
	for _, row := range m {
		for j, x := range row {
			columns[j] = append(columns[j], x)
		}
	}
	return columns
}

// dots returns the sums of the products of each row of m with v, which is as long as a row.
func dots(p uint64, m [][]uint64, v []uint64) []uint64 {
	sums := make([]uint64, len(m))
	for i, row := range m {
		sums[i], _ = field.Dot(p, row, v)
	}
	return sums
}

// powers returns the first n powers of x, the first of which is 1 even if x is 0.
func powers(p, x uint64, n int) []uint64 {
	row := make([]uint64, n)
	power := uint64(1)
	for i := range row {
		row[i] = power
		power = power * x % p
	}
	return row
}

// unit returns n zeros, except that the one with this index is 1.
func unit(n, index int) []uint64 {
	row := make([]uint64, n)
	row[index] = 1
	return row
}

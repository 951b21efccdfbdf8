package pair

import (
	"slices"

	"junto/api"
)

// maxThreshold is the largest threshold of a setup.
const maxThreshold = (api.MaxParties - 1) / 4

// isThreshold reports whether t is within the limits of a threshold.
func isThreshold(t int) bool {
	return t >= 0 && t <= maxThreshold
}

// isSquare reports whether f consists of n rows of n elements; f may be anything.
func isSquare(f [][]uint64, n int) bool {
	return len(f) == n && !slices.ContainsFunc(f, func(row []uint64) bool { return len(row) != n })
}

// isSymmetric reports whether f, which is square, equals its mirror image.
func isSymmetric(f [][]uint64) bool {
	for i, row := range f {
		for k := range i {
			if row[k] != f[k][i] {
				return false
			}
		}
	}
	return true
}

// allBelow reports whether all elements of l are below p.
func allBelow(p uint64, l []uint64) bool {
	return !slices.ContainsFunc(l, func(x uint64) bool { return x >= p })
}

// mirrored returns the pair whose elements f[i][k] with i at most k are these, row by row.
func mirrored(t int, upper []uint64) [][]uint64 {
	f := make([][]uint64, t+1)
	for i := range f {
		f[i] = make([]uint64, t+1)
	}
	next := 0
	for i := range f {
		for k := i; k <= t; k++ {
			f[i][k], f[k][i] = upper[next], upper[next]
			next++
		}
	}
	return f
}

// changed returns the pair in which change(i, k), which equals change(k, i), is added to each f[i][k].
func changed(p uint64, f [][]uint64, change func(i, k int) uint64) [][]uint64 {
	g := make([][]uint64, len(f))
	for i, row := range f {
		g[i] = make([]uint64, len(row))
		for k, c := range row {
			g[i][k] = (c + change(i, k)) % p
		}
	}
	return g
}

// padded returns l with zeros up to the length n, in new memory.
func padded(l []uint64, n int) []uint64 {
	longer := make([]uint64, n)
	copy(longer, l)
	return longer
}

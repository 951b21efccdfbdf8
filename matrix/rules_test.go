package matrix_test

import (
	"math"
	"slices"
	"testing"

	"junto/api"
	"junto/matrix"
)

// results returns what the functions return for m and a list that is as long as a row or a column of m.
func results(m table, v []uint64) []table {
	product, _ := matrix.Mul(7, m, m)
	same, _ := matrix.Mul(7, m, identity(len(m)))
	image, _ := matrix.Apply(7, m, v)
	reduced, _, _ := matrix.Reduce(7, m)
	inverse, _ := matrix.Inverse(7, m)
	x, _ := matrix.Solve(7, m, v)
	null, _ := matrix.Null(7, m)
	powers, _ := matrix.Powers(7, v, 3)
	return []table{product, same, {image}, reduced, inverse, {x}, null, powers}
}

// Rule 4: arguments are neither modified nor shared.

func TestMemory(t *testing.T) {
	v := list(1, 0, 2)
	for _, m := range []table{
		{{0, 2, 3}, {4, 5, 6}, {1, 2, 4}},
		{{1, 0, 0}, {0, 1, 0}, {0, 0, 1}},
		{{0, 0, 1}, {0, 0, 0}, {0, 0, 2}},
	} {
		before := copied(m)
		for _, r := range results(m, v) {
			for _, row := range r {
				for i := range row {
					row[i] = 100
				}
				_ = append(row, 100)
			}
		}
		matrix.Check(7, m)
		matrix.Rank(7, m)
		matrix.Det(7, m)
		if !sameTable(m, before) || !slices.Equal(v, list(1, 0, 2)) {
			t.Error(m, before, v)
		}
	}
}

func TestRowsAreSeparate(t *testing.T) {
	for _, m := range []table{{{0, 2, 3}, {4, 5, 6}, {1, 2, 4}}, identity(3), zeros(3, 3)} {
		for _, r := range results(m, list(1, 0, 2)) {
			for i := range r {
				before := copied(r)
				clear(r[i])
				_ = append(r[i], 100, 100, 100, 100)
				_ = append(r[i][:0], 100)
				for k := range r {
					if k != i && !slices.Equal(r[k], before[k]) {
						t.Error(m, before, r)
					}
				}
			}
		}
	}
}

// An argument whose rows share memory means the same as one whose rows do not.
func TestSharedRows(t *testing.T) {
	v := list(1, 2, 3)
	shared, separate := table{v, v, v}, table{{1, 2, 3}, {1, 2, 3}, {1, 2, 3}}
	for name, call := range takesOne() {
		a, b := call(7, shared), call(7, separate)
		if !sameTable(a.m, b.m) || !slices.Equal(a.pivots, b.pivots) || a.e != b.e {
			t.Error(name, a, b)
		}
	}
	if !slices.Equal(v, list(1, 2, 3)) {
		t.Error(v)
	}
}

// The document's P1 and P2: all calls end without a panic, and twice with the same results.

func TestAnyArguments(t *testing.T) {
	numbers := list(0, 1, 2, 3, 7, 257, 65536, 65537, 1<<32, 1<<32+7, 1<<64-1)
	lists := [][]uint64{nil, {0}, {1}, {1, 2}, {0, 0}, {6, 6, 6}, {1, 1 << 63}, numbers, make([]uint64, 64), make([]uint64, 65)}
	tables := []table{nil, {}, {nil}, {{}, {}}, identity(1), identity(64), identity(65), zeros(2, 3), zeros(3, 2), zeros(1, 64), zeros(64, 1), {{1, 2}, {3}}, {{1 << 63}}, {{2, 4}, {1, 2}}, {{1, 2, 3}}, {{1}, {2}, {3}}, lists[1:], lists}
	same := func(name string, a, b answer) {
		if a.e != b.e || !sameTable(a.m, b.m) || !slices.Equal(a.pivots, b.pivots) {
			t.Error(name, a, b)
		}
	}
	for _, p := range numbers {
		for _, m := range tables {
			for name, call := range takesOne() {
				same(name, call(p, m), call(p, m))
			}
			for _, v := range lists {
				same("Apply", row(matrix.Apply(p, m, v)), row(matrix.Apply(p, m, v)))
				same("Solve", row(matrix.Solve(p, m, v)), row(matrix.Solve(p, m, v)))
			}
			for _, other := range tables {
				same("Mul", got(matrix.Mul(p, m, other)), got(matrix.Mul(p, m, other)))
			}
		}
		for _, v := range lists {
			for _, n := range []int{math.MinInt, -1, 0, 1, 64, 65, math.MaxInt} {
				same("Powers", got(matrix.Powers(p, v, n)), got(matrix.Powers(p, v, n)))
			}
		}
	}
}

// Rule 2: an error code is the only result that is not zero.
func TestZeroValuesWithErrors(t *testing.T) {
	singular, wide := table{{1, 2}, {2, 4}}, table{{1, 2}}
	for _, a := range []answer{
		got(matrix.Inverse(7, singular)), got(matrix.Inverse(7, wide)), number(matrix.Det(7, wide)),
		row(matrix.Solve(7, singular, list(1, 1))), row(matrix.Apply(7, singular, list(1))),
		got(matrix.Mul(7, wide, wide)), got(matrix.Powers(7, nil, 1)), reduction(matrix.Reduce(7, nil)),
		number(matrix.Rank(7, nil)), got(matrix.Null(7, nil)),
	} {
		if a.e == api.OK || len(a.m) != 0 || len(a.pivots) != 0 {
			t.Error(a)
		}
	}
}

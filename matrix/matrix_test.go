package matrix_test

import (
	"math"
	"slices"
	"testing"

	"junto/api"
	"junto/matrix"
)

// The example of the chapter.

func TestExample(t *testing.T) {
	m := table{{1, 2}, {3, 4}}
	expectNumber(t, "Det", number(matrix.Det(7, m)), 5)
	expect(t, "Inverse", got(matrix.Inverse(7, m)), list(5, 1), list(5, 3))
	expect(t, "Solve", row(matrix.Solve(7, m, list(1, 0))), list(5, 5))
}

// P3.1

func TestCheck(t *testing.T) {
	for _, p := range primes {
		for _, m := range []table{{{0}}, {{p - 1}}, {{1, 2}}, {{1}, {2}}, zeros(64, 64), zeros(1, 64), zeros(64, 1)} {
			if e := matrix.Check(p, m); e != api.OK {
				t.Error(p, m, e)
			}
		}
	}
}

// badTables returns matrices with the errors that Check returns for them.
func badTables(p uint64) []struct {
	m table
	e api.Errno
} {
	last := zeros(64, 64)
	last[63][63] = p
	long := zeros(65, 2)
	long[0][0] = p
	long[1] = nil
	return []struct {
		m table
		e api.Errno
	}{
		{nil, api.ErrLimit},
		{table{}, api.ErrLimit},
		{table{nil}, api.ErrLimit},
		{table{{}}, api.ErrLimit},
		{table{{}, {1}}, api.ErrLimit},
		{table{{}, {p}}, api.ErrLimit},
		{zeros(65, 1), api.ErrLimit},
		{zeros(1, 65), api.ErrLimit},
		{zeros(65, 65), api.ErrLimit},
		{zeros(1000, 1), api.ErrLimit},
		{long, api.ErrLimit},
		{append(zeros(1, 65), list(1)), api.ErrLimit},
		{table{slices.Repeat(list(p), 65)}, api.ErrLimit},
		{table{{1}, nil}, api.ErrForm},
		{table{{1}, {}}, api.ErrForm},
		{table{{1}, {1, 2}}, api.ErrForm},
		{table{{1, 2}, {1}}, api.ErrForm},
		{table{{1, 2}, {1, 2}, {1}}, api.ErrForm},
		{table{{1, 2}, make([]uint64, 65)}, api.ErrForm},
		{table{{p}, {1, 2}}, api.ErrForm},
		{table{{1}, {p, 2}}, api.ErrForm},
		{table{{1}, {p}, {1, 2}}, api.ErrForm},
		{table{{p}}, api.ErrArg},
		{table{{1, p}, {1, 2}}, api.ErrArg},
		{table{{1, 2}, {1, p}}, api.ErrArg},
		{last, api.ErrArg},
	}
}

func TestBadTables(t *testing.T) {
	for _, p := range primes {
		for _, bad := range badTables(p) {
			for name, call := range takesOne() {
				fails(t, name, call(p, bad.m), bad.e)
			}
			fails(t, "Mul by it", got(matrix.Mul(p, table{{1}}, bad.m)), bad.e)
			fails(t, "Apply to nothing", row(matrix.Apply(p, bad.m, nil)), bad.e)
			fails(t, "Solve for nothing", row(matrix.Solve(p, bad.m, nil)), bad.e)
		}
		for _, x := range notBelow(p) {
			for name, call := range takesOne() {
				fails(t, name, call(p, table{{1, 0}, {0, x}}), api.ErrArg)
			}
		}
	}
}

func TestBadPrimes(t *testing.T) {
	for _, p := range badPrimes {
		for _, m := range []table{nil, {{}}, {{0}}, {{1}}, {{0}, {0, 0}}, zeros(65, 65), identity(2)} {
			for name, call := range takesOne() {
				fails(t, name, call(p, m), api.ErrArg)
			}
			fails(t, "Mul", got(matrix.Mul(p, table{{1}}, m)), api.ErrArg)
		}
		for _, n := range []int{-1, 0, 1, 2, 65} {
			fails(t, "Powers", got(matrix.Powers(p, make([]uint64, max(n, 0)), n)), api.ErrArg)
			fails(t, "Powers of 1", got(matrix.Powers(p, list(1), n)), api.ErrArg)
		}
	}
}

// P3.2

func TestMulAndApply(t *testing.T) {
	sides := []int{1, 2, 3, 5, 64}
	for _, p := range primes {
		random := randomFor(p)
		for _, rows := range sides {
			for _, middle := range sides {
				for _, columns := range sides {
					a, b := drawnTable(random, p, rows, middle), drawnTable(random, p, middle, columns)
					expect(t, "Mul", got(matrix.Mul(p, a, b)), times(p, a, b)...)
				}
				m, v := drawnTable(random, p, rows, middle), drawn(random, p, middle)
				expect(t, "Apply", row(matrix.Apply(p, m, v)), image(p, m, v))
			}
		}
		greatest := slices.Repeat(table{slices.Repeat(list(p-1), 64)}, 64)
		expect(t, "Mul", got(matrix.Mul(p, greatest, greatest)), slices.Repeat(table{slices.Repeat(list(64%p), 64)}, 64)...)
		expect(t, "Apply", row(matrix.Apply(p, greatest, greatest[0])), slices.Repeat(list(64%p), 64))
	}
	expect(t, "Mul", got(matrix.Mul(7, table{{1, 2}}, table{{3}, {4}})), list(4))
	expect(t, "Mul", got(matrix.Mul(7, table{{3}, {4}}, table{{1, 2}})), list(3, 6), list(4, 1))
	expect(t, "Apply", row(matrix.Apply(7, table{{1, 2}, {3, 4}, {5, 6}}, list(1, 2))), list(5, 4, 3))
}

func TestErrorsOfMul(t *testing.T) {
	for _, x := range []struct {
		a, b table
		e    api.Errno
	}{
		{table{{1, 2}}, table{{1, 2}}, api.ErrArg},
		{table{{1, 2}}, table{{1}}, api.ErrArg},
		{table{{1}}, table{{1}, {2}}, api.ErrArg},
		{table{{1}, {2}}, table{{1}, {2}}, api.ErrArg},
		{zeros(64, 63), zeros(64, 64), api.ErrArg},
		{table{{1, 2}}, nil, api.ErrLimit},
		{nil, table{{1, 2}}, api.ErrLimit},
		{table{{7}}, nil, api.ErrArg},
		{table{{7}}, table{{1}, {1, 2}}, api.ErrArg},
		{nil, table{{7}}, api.ErrLimit},
		{nil, table{{1}, {1, 2}}, api.ErrLimit},
		{table{{1}, {1, 2}}, nil, api.ErrForm},
		{table{{1}, {1, 2}}, table{{7}}, api.ErrForm},
		{table{{1, 2}}, table{{1}, {1, 2}, {1}}, api.ErrForm},
		{table{{1, 2}}, table{{1}, {7}}, api.ErrArg},
	} {
		fails(t, "Mul", got(matrix.Mul(7, x.a, x.b)), x.e)
	}
}

func TestErrorsOfApply(t *testing.T) {
	m := table{{1, 2, 3}, {4, 5, 6}}
	for _, v := range [][]uint64{nil, {}, {1, 2}, {1, 2, 3, 4}, make([]uint64, 1000), {7, 0, 0}, {0, 0, 7}, {0, 1<<64 - 1, 0}} {
		fails(t, "Apply", row(matrix.Apply(7, m, v)), api.ErrArg)
	}
}

// P3.3

func TestReduce(t *testing.T) {
	for _, k := range manyMade() {
		rows, pivots, e := matrix.Reduce(k.p, k.m)
		if !sameTable(rows, k.reduced) || !slices.Equal(pivots, k.pivots) || e != api.OK {
			t.Error("Reduce", k.p, len(k.m), len(k.m[0]), k.pivots, pivots, e)
		}
		again, _, _ := matrix.Reduce(k.p, rows)
		if !sameTable(again, rows) {
			t.Error("Reduce of its result", k.p, again, rows)
		}
		expectNumber(t, "Rank", number(matrix.Rank(k.p, k.m)), uint64(len(k.pivots)))
	}
}

// isReduced reports whether the rows have the form that the document describes.
func isReduced(rows table, pivots []int) bool {
	for i, row := range rows {
		first := slices.IndexFunc(row, func(x uint64) bool { return x != 0 })
		if i >= len(pivots) {
			if first >= 0 {
				return false
			}
			continue
		}
		if first != pivots[i] || row[first] != 1 || i > 0 && first <= pivots[i-1] {
			return false
		}
		for k := range rows {
			if k != i && rows[k][first] != 0 {
				return false
			}
		}
	}
	return len(pivots) <= len(rows)
}

func TestReduceKeepsTheRowSpace(t *testing.T) {
	for _, p := range primes {
		for _, m := range fewTables(p) {
			rows, pivots, e := matrix.Reduce(p, m)
			if len(rows) != len(m) || len(rows[0]) != len(m[0]) || !isReduced(rows, pivots) || e != api.OK {
				t.Fatal(p, m, rows, pivots, e)
			}
			// A row of m is the combination of the reduced rows whose factors are its elements at the pivots.
			for _, row := range m {
				factors := make([]uint64, len(rows))
				for i, pivot := range pivots {
					factors[i] = row[pivot]
				}
				if !slices.Equal(times(p, table{factors}, rows)[0], row) {
					t.Error(p, m, rows, row)
				}
			}
			if len(pivots) != rank(p, m) {
				t.Error(p, m, pivots, rank(p, m))
			}
		}
	}
}

func TestReduceExamples(t *testing.T) {
	for _, x := range []struct {
		m, rows table
		pivots  []int
	}{
		{table{{0}}, table{{0}}, nil},
		{table{{3}}, table{{1}}, []int{0}},
		{table{{0, 2}, {0, 4}}, table{{0, 1}, {0, 0}}, []int{1}},
		{table{{0, 2}, {3, 0}}, table{{1, 0}, {0, 1}}, []int{0, 1}},
		{table{{0, 0}, {0, 0}, {0, 5}}, table{{0, 1}, {0, 0}, {0, 0}}, []int{1}},
		{table{{0, 0, 0}, {2, 4, 6}, {1, 2, 4}}, table{{1, 2, 0}, {0, 0, 1}, {0, 0, 0}}, []int{0, 2}},
		{table{{6, 6}}, table{{1, 1}}, []int{0}},
	} {
		rows, pivots, e := matrix.Reduce(7, x.m)
		if !sameTable(rows, x.rows) || !slices.Equal(pivots, x.pivots) || e != api.OK {
			t.Error(x, rows, pivots, e)
		}
	}
}

// P3.4

func TestDet(t *testing.T) {
	for _, p := range primes {
		for _, m := range fewTables(p) {
			if len(m) == len(m[0]) {
				expectNumber(t, "Det", number(matrix.Det(p, m)), determinant(p, m))
			}
		}
		// Swaps of rows change the sign.
		expectNumber(t, "Det", number(matrix.Det(p, table{{0, 1}, {1, 0}})), p-1)
		expectNumber(t, "Det", number(matrix.Det(p, table{{0, 1, 0}, {0, 0, 1}, {1, 0, 0}})), 1)
		expectNumber(t, "Det", number(matrix.Det(p, table{{0}})), 0)
		expectNumber(t, "Det", number(matrix.Det(p, table{{p - 1}})), p-1)
		expectNumber(t, "Det", number(matrix.Det(p, table{{p - 1, 0}, {0, p - 1}})), 1)
	}
	for _, k := range manyMade() {
		if len(k.m) != len(k.m[0]) {
			continue
		}
		det := k.det
		if len(k.pivots) < len(k.m) {
			det = 0
		}
		expectNumber(t, "Det", number(matrix.Det(k.p, k.m)), det)
	}
}

func TestInverse(t *testing.T) {
	for _, k := range manyMade() {
		n := len(k.left)
		inverse, e := matrix.Inverse(k.p, k.left)
		if e != api.OK || len(inverse) != n || len(inverse[0]) != n {
			t.Fatal(k.p, n, e)
		}
		if !sameTable(times(k.p, inverse, k.left), identity(n)) || !sameTable(times(k.p, k.left, inverse), identity(n)) {
			t.Error("Inverse", k.p, n)
		}
		expect(t, "Inverse of the inverse", got(matrix.Inverse(k.p, inverse)), k.left...)
		if len(k.m) == len(k.m[0]) && len(k.pivots) < n {
			fails(t, "Inverse", got(matrix.Inverse(k.p, k.m)), api.ErrZero)
		}
	}
	for _, p := range primes {
		for _, m := range fewTables(p) {
			if len(m) == len(m[0]) && determinant(p, m) == 0 {
				fails(t, "Inverse", got(matrix.Inverse(p, m)), api.ErrZero)
			}
		}
		expect(t, "Inverse of a unit matrix", got(matrix.Inverse(p, identity(64))), identity(64)...)
	}
}

func TestNotSquare(t *testing.T) {
	for _, m := range []table{{{1, 2}}, {{1}, {2}}, zeros(2, 3), zeros(3, 2), zeros(63, 64), zeros(64, 63)} {
		fails(t, "Det", number(matrix.Det(7, m)), api.ErrArg)
		fails(t, "Inverse", got(matrix.Inverse(7, m)), api.ErrArg)
	}
}

// P3.5

func TestSolve(t *testing.T) {
	for _, k := range manyMade() {
		random := randomFor(k.p)
		x := drawn(random, k.p, len(k.m[0]))
		for _, j := range k.free() {
			x[j] = 0
		}
		v := image(k.p, k.m, x)
		expect(t, "Solve", row(matrix.Solve(k.p, k.m, v)), x)
		expect(t, "Solve for 0", row(matrix.Solve(k.p, k.m, make([]uint64, len(v)))), make([]uint64, len(x)))
		// The invertible matrix turns this into a right side that differs from 0 where the reduced form is 0.
		for i := len(k.pivots); i < len(k.m); i++ {
			bad := make([]uint64, len(v))
			bad[i] = 1 + random.Uint64()%(k.p-1)
			for j, y := range image(k.p, k.left, bad) {
				bad[j] = (v[j] + y) % k.p
			}
			fails(t, "Solve", row(matrix.Solve(k.p, k.m, bad)), api.ErrNone)
		}
	}
}

func TestErrorsOfSolve(t *testing.T) {
	m := table{{1, 2, 3}, {2, 4, 6}}
	for _, v := range [][]uint64{nil, {}, {1}, {1, 2, 3}, make([]uint64, 1000), {7, 0}, {0, 7}, {1, 7}, {7, 1}, {0, 1<<64 - 1}} {
		fails(t, "Solve", row(matrix.Solve(7, m, v)), api.ErrArg)
	}
	fails(t, "Solve", row(matrix.Solve(7, m, list(1, 1))), api.ErrNone)
	fails(t, "Solve", row(matrix.Solve(7, table{{0}}, list(1))), api.ErrNone)
	expect(t, "Solve", row(matrix.Solve(7, m, list(5, 3))), list(5, 0, 0))
	expect(t, "Solve", row(matrix.Solve(7, table{{0, 2, 1}}, list(1))), list(0, 4, 0))
	expect(t, "Solve", row(matrix.Solve(7, table{{0}}, list(0))), list(0))
}

// P3.6

func TestNull(t *testing.T) {
	for _, k := range manyMade() {
		var want table
		for _, j := range k.free() {
			x := make([]uint64, len(k.m[0]))
			x[j] = 1
			for i, pivot := range k.pivots {
				x[pivot] = (k.p - k.reduced[i][j]) % k.p
			}
			want = append(want, x)
		}
		expect(t, "Null", got(matrix.Null(k.p, k.m)), want...)
		for _, x := range want {
			if slices.Max(image(k.p, k.m, x)) != 0 {
				t.Error("Null", k.p, k.m, x)
			}
		}
	}
	expect(t, "Null", got(matrix.Null(7, table{{1, 2, 3}, {2, 4, 6}})), list(5, 1, 0), list(4, 0, 1))
	expect(t, "Null of 0", got(matrix.Null(7, zeros(2, 3))), identity(3)...)
	expect(t, "Null of an invertible matrix", got(matrix.Null(7, identity(3))))
}

// P3.7

func TestPowers(t *testing.T) {
	for _, p := range primes {
		xs := drawn(randomFor(p), p, 60)
		xs = append(xs, 0, 1, p-1, p-1)
		for _, n := range []int{1, 2, 3, 64} {
			want := zeros(len(xs), n)
			for i, x := range xs {
				want[i][0] = 1
				for j := 1; j < n; j++ {
					want[i][j] = want[i][j-1] * x % p
				}
			}
			expect(t, "Powers", got(matrix.Powers(p, xs, n)), want...)
			expect(t, "Powers of one number", got(matrix.Powers(p, xs[:1], n)), want[0])
		}
	}
	expect(t, "Powers", got(matrix.Powers(7, list(2, 3), 3)), list(1, 2, 4), list(1, 3, 2))
	expect(t, "Powers of 0", got(matrix.Powers(7, list(0), 3)), list(1, 0, 0))
}

func TestErrorsOfPowers(t *testing.T) {
	for _, x := range []struct {
		xs []uint64
		n  int
		e  api.Errno
	}{
		{nil, 1, api.ErrLimit},
		{list(), 1, api.ErrLimit},
		{make([]uint64, 65), 1, api.ErrLimit},
		{slices.Repeat(list(7), 65), 1, api.ErrLimit},
		{list(1), 0, api.ErrLimit},
		{list(1), -1, api.ErrLimit},
		{list(1), 65, api.ErrLimit},
		{list(1), math.MinInt, api.ErrLimit},
		{list(1), math.MaxInt, api.ErrLimit},
		{list(7), 0, api.ErrLimit},
		{list(7), 65, api.ErrLimit},
		{list(7), 1, api.ErrArg},
		{list(1, 7), 2, api.ErrArg},
		{append(make([]uint64, 63), 1<<64-1), 64, api.ErrArg},
	} {
		fails(t, "Powers", got(matrix.Powers(7, x.xs, x.n)), x.e)
	}
}

// P3.8

func TestAllSolutions(t *testing.T) {
	for _, p := range []uint64{3, 5} {
		for _, m := range fewTables(p) {
			solutions := map[string]table{}
			for _, x := range tuples(p, len(m[0])) {
				v := text(image(p, m, x))
				solutions[v] = append(solutions[v], x)
			}
			null, e := matrix.Null(p, m)
			if e != api.OK {
				t.Fatal(p, m, e)
			}
			for _, v := range tuples(p, len(m)) {
				want := solutions[text(v)]
				x, e := matrix.Solve(p, m, v)
				if want == nil {
					fails(t, "Solve", row(x, e), api.ErrNone)
					continue
				}
				if e != api.OK || !slices.ContainsFunc(want, func(y []uint64) bool { return slices.Equal(x, y) }) {
					t.Fatal(p, m, v, x, e)
				}
				if !sameTable(around(p, x, null), want) {
					t.Error(p, m, v, x, null)
				}
			}
		}
	}
}

// text makes a key of a list of small numbers.
func text(l []uint64) string {
	s := ""
	for _, x := range l {
		s += string(rune('0' + x))
	}
	return s
}

// around returns, in order, the sums of x and all linear combinations of the rows.
func around(p uint64, x []uint64, rows table) table {
	var sums table
	for _, factors := range tuples(p, len(rows)) {
		sum := slices.Clone(x)
		for i, k := range factors {
			for j := range sum {
				sum[j] = (sum[j] + k*rows[i][j]) % p
			}
		}
		sums = append(sums, sum)
	}
	slices.SortFunc(sums, slices.Compare[[]uint64])
	return sums
}

// P3.9

func TestRank(t *testing.T) {
	for _, p := range primes {
		for _, m := range fewTables(p) {
			r, e := matrix.Rank(p, m)
			if r != rank(p, m) || e != api.OK {
				t.Error("Rank", p, m, r, e)
			}
			null, e := matrix.Null(p, m)
			if r+len(null) != len(m[0]) || e != api.OK {
				t.Error("Null", p, m, r, null, e)
			}
			if len(m) != len(m[0]) {
				continue
			}
			if det, e := matrix.Det(p, m); (det == 0) != (r < len(m)) || e != api.OK {
				t.Error("Det", p, m, r, det, e)
			}
		}
	}
}

func TestDetOfProduct(t *testing.T) {
	for _, p := range primes {
		random := randomFor(p)
		for _, n := range []int{1, 2, 3, 4, 10, 64} {
			a, b := drawnTable(random, p, n, n), drawnTable(random, p, n, n)
			detA, _ := matrix.Det(p, a)
			detB, _ := matrix.Det(p, b)
			product, _ := matrix.Mul(p, a, b)
			expectNumber(t, "Det of a product", number(matrix.Det(p, product)), detA*detB%p)
		}
	}
}

// P3.10

func TestPowersAreInvertible(t *testing.T) {
	for _, p := range primes {
		for n := range min(64, int(p)) {
			var xs []uint64
			for i := range n + 1 {
				xs = append(xs, p-1-uint64(i))
			}
			m, e := matrix.Powers(p, xs, len(xs))
			if e != api.OK {
				t.Fatal(p, xs, e)
			}
			inverse, e := matrix.Inverse(p, m)
			if e != api.OK || !sameTable(times(p, m, inverse), identity(len(xs))) {
				t.Error(p, xs, e)
			}
		}
		m, _ := matrix.Powers(p, list(2, 1, 2), 3)
		fails(t, "Inverse of powers of equal numbers", got(matrix.Inverse(p, m)), api.ErrZero)
	}
}

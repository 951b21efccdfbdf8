package matrix_test

import (
	"math/rand"
	"slices"
	"testing"

	"junto/api"
	"junto/matrix"
)

var primes = []uint64{3, 5, 7, 11, 13, 211, 257, 65521, 65537}

// badPrimes are not primes as the document defines them. Some are congruent to a prime modulo a power of 2.
var badPrimes = []uint64{0, 1, 2, 4, 9, 65535, 65536, 65539, 1<<16 + 7, 1<<32 + 7, 1<<63 + 7, 1<<64 - 1}

// notBelow returns numbers that are not elements modulo p.
func notBelow(p uint64) []uint64 {
	return []uint64{p, p + 1, 2 * p, 1 << 32, 1<<32 + 1, 1 << 63, 1<<64 - 1}
}

// table makes matrices shorter to write.
type table = [][]uint64

// list makes lists of field elements shorter to write.
func list(l ...uint64) []uint64 {
	return l
}

// zeros returns a matrix of zeros.
func zeros(rows, columns int) table {
	m := make(table, rows)
	for i := range m {
		m[i] = make([]uint64, columns)
	}
	return m
}

// identity returns a unit matrix.
func identity(n int) table {
	m := zeros(n, n)
	for i := range m {
		m[i][i] = 1
	}
	return m
}

// copied returns the same matrix in new memory.
func copied(m table) table {
	c := make(table, len(m))
	for i, row := range m {
		c[i] = slices.Clone(row)
	}
	return c
}

func randomFor(p uint64) *rand.Rand {
	return rand.New(rand.NewSource(int64(p)))
}

// drawn returns n random field elements.
func drawn(random *rand.Rand, p uint64, n int) []uint64 {
	l := make([]uint64, n)
	for i := range l {
		l[i] = random.Uint64() % p
	}
	return l
}

// drawnTable returns a matrix of random elements.
func drawnTable(random *rand.Rand, p uint64, rows, columns int) table {
	m := make(table, rows)
	for i := range m {
		m[i] = drawn(random, p, columns)
	}
	return m
}

// tuples returns all lists of n field elements.
func tuples(p uint64, n int) [][]uint64 {
	if n == 0 {
		return [][]uint64{nil}
	}
	var l [][]uint64
	for _, t := range tuples(p, n-1) {
		for x := range p {
			l = append(l, append(slices.Clone(t), x))
		}
	}
	return l
}

// allTables returns all matrices of a size.
func allTables(p uint64, rows, columns int) []table {
	var all []table
	for _, t := range tuples(p, rows*columns) {
		all = append(all, slices.Collect(slices.Chunk(t, columns)))
	}
	return all
}

// fewTables returns all matrices of a few small sizes if there are few, and random ones otherwise. Some of these
// have more zeros, and some have dependent rows.
func fewTables(p uint64) []table {
	if p == 3 {
		return slices.Concat(allTables(p, 1, 1), allTables(p, 1, 3), allTables(p, 3, 1), allTables(p, 2, 2), allTables(p, 2, 3), allTables(p, 3, 2))
	}
	random := randomFor(p)
	var all []table
	for rows := 1; rows <= 4; rows++ {
		for columns := 1; columns <= 4; columns++ {
			full := drawnTable(random, p, rows, columns)
			sparse := drawnTable(random, p, rows, columns)
			for _, row := range sparse {
				for j := range row {
					row[j] *= random.Uint64() % 2
				}
			}
			thin := times(p, drawnTable(random, p, rows, 2), drawnTable(random, p, 2, columns))
			all = append(all, zeros(rows, columns), full, sparse, thin, times(p, sparse, drawnTable(random, p, columns, columns)))
		}
	}
	return all
}

// times is the reference for products: the sums of all products of an element of a and one of b.
func times(p uint64, a, b table) table {
	product := zeros(len(a), len(b[0]))
	for i := range a {
		for k := range b {
			for j := range b[k] {
				product[i][j] = (product[i][j] + a[i][k]*b[k][j]%p) % p
			}
		}
	}
	return product
}

// image is the reference for the product of a matrix and a column.
func image(p uint64, m table, v []uint64) []uint64 {
	sums := make([]uint64, len(m))
	for i, row := range m {
		for j, x := range row {
			sums[i] = (sums[i] + x*v[j]%p) % p
		}
	}
	return sums
}

// determinant is the reference for determinants: the expansion along the first row.
func determinant(p uint64, m table) uint64 {
	if len(m) == 0 {
		return 1
	}
	sum := uint64(0)
	for j, x := range m[0] {
		var minor table
		for _, row := range m[1:] {
			minor = append(minor, slices.Delete(slices.Clone(row), j, j+1))
		}
		term := x * determinant(p, minor) % p
		if j%2 == 1 {
			term = (p - term) % p
		}
		sum = (sum + term) % p
	}
	return sum
}

// subsets returns all increasing lists of k numbers below n.
func subsets(n, k int) [][]int {
	if k == 0 {
		return [][]int{nil}
	}
	var l [][]int
	for last := k - 1; last < n; last++ {
		for _, s := range subsets(last, k-1) {
			l = append(l, append(slices.Clone(s), last))
		}
	}
	return l
}

// rank is the reference for ranks: the greatest size of a square part whose determinant is not 0.
func rank(p uint64, m table) int {
	for k := min(len(m), len(m[0])); k > 0; k-- {
		for _, rows := range subsets(len(m), k) {
			for _, columns := range subsets(len(m[0]), k) {
				part := zeros(k, k)
				for i, r := range rows {
					for j, c := range columns {
						part[i][j] = m[r][c]
					}
				}
				if determinant(p, part) != 0 {
					return k
				}
			}
		}
	}
	return 0
}

// made is a matrix that was made so that its reduced form is known: it is the product of an invertible matrix and
// that form.
type made struct {
	p       uint64
	m       table
	left    table // the invertible matrix
	det     uint64
	reduced table
	pivots  []int
}

// invertible returns a matrix and its determinant: the product of a lower and an upper triangular matrix, the
// rows of which are then swapped.
func invertible(random *rand.Rand, p uint64, n int) (table, uint64) {
	lower, upper := drawnTable(random, p, n, n), drawnTable(random, p, n, n)
	det := uint64(1)
	for i := range n {
		for j := range n {
			if i < j {
				lower[i][j] = 0
			} else if i > j {
				upper[i][j] = 0
			}
		}
		lower[i][i], upper[i][i] = 1, 1+random.Uint64()%(p-1)
		det = det * upper[i][i] % p
	}
	m := times(p, lower, upper)
	for range n {
		if i, j := random.Intn(n), random.Intn(n); i != j {
			m[i], m[j] = m[j], m[i]
			det = p - det
		}
	}
	return m, det
}

// makeTable returns a matrix of a size and with pivots that are known.
func makeTable(p uint64, rows, columns int, pivots ...int) made {
	random := randomFor(p)
	k := made{p: p, pivots: pivots}
	k.left, k.det = invertible(random, p, rows)
	k.reduced = zeros(rows, columns)
	for i, pivot := range pivots {
		for j := pivot + 1; j < columns; j++ {
			if !slices.Contains(pivots, j) {
				k.reduced[i][j] = random.Uint64() % p
			}
		}
		k.reduced[i][pivot] = 1
	}
	k.m = times(p, k.left, k.reduced)
	return k
}

// to returns the numbers below n.
func to(n int) []int {
	l := make([]int, n)
	for i := range l {
		l[i] = i
	}
	return l
}

// manyMade returns matrices of many sizes, up to the limit.
func manyMade() []made {
	var l []made
	for _, p := range primes {
		l = append(l,
			makeTable(p, 1, 1), makeTable(p, 1, 1, 0), makeTable(p, 3, 3), makeTable(p, 2, 3, 0), makeTable(p, 2, 3, 2),
			makeTable(p, 2, 3, 0, 2), makeTable(p, 3, 3, 1, 2), makeTable(p, 3, 3, 0, 1, 2), makeTable(p, 5, 3, 0, 1, 2),
			makeTable(p, 4, 9, 1, 2, 5, 8), makeTable(p, 9, 6, 0, 3, 4), makeTable(p, 1, 64, 3), makeTable(p, 64, 1, 0),
			makeTable(p, 7, 7, to(7)...), makeTable(p, 20, 20, to(17)...), makeTable(p, 64, 64, to(64)...),
			makeTable(p, 64, 64, to(40)...), makeTable(p, 30, 64, to(30)...), makeTable(p, 64, 30, to(30)...),
			makeTable(p, 64, 64, slices.DeleteFunc(to(64), func(i int) bool { return i%5 == 0 })...))
	}
	return l
}

// free returns the columns without a pivot.
func (k made) free() []int {
	return slices.DeleteFunc(to(len(k.m[0])), func(j int) bool { return slices.Contains(k.pivots, j) })
}

// answer is what a function of matrix returned.
type answer struct {
	m      table
	pivots []int
	e      api.Errno
}

func got(m table, e api.Errno) answer {
	return answer{m: m, e: e}
}

// row makes an answer of a function that returns one list.
func row(l []uint64, e api.Errno) answer {
	if e != api.OK && len(l) == 0 {
		return answer{e: e}
	}
	return answer{m: table{l}, e: e}
}

// number makes an answer of a function that returns one number.
func number[T int | uint64](n T, e api.Errno) answer {
	if e != api.OK && n == 0 {
		return answer{e: e}
	}
	return row(list(uint64(n)), e)
}

// reduction makes an answer of Reduce.
func reduction(m table, pivots []int, e api.Errno) answer {
	return answer{m, pivots, e}
}

func sameTable(a, b table) bool {
	return slices.EqualFunc(a, b, func(a, b []uint64) bool { return slices.Equal(a, b) })
}

func expect(t *testing.T, what string, a answer, want ...[]uint64) {
	t.Helper()
	if a.e != api.OK || !sameTable(a.m, want) {
		t.Errorf("%s is %v with error %d, not %v", what, a.m, a.e, want)
	}
}

func expectNumber(t *testing.T, what string, a answer, n uint64) {
	t.Helper()
	expect(t, what, a, list(n))
}

// fails checks the error, and that it comes with zero values.
func fails(t *testing.T, what string, a answer, e api.Errno) {
	t.Helper()
	if a.e != e || len(a.m) != 0 || len(a.pivots) != 0 {
		t.Errorf("%s is %v %v with error %d, not error %d", what, a.m, a.pivots, a.e, e)
	}
}

// takesOne are the functions that take one matrix, with a further argument that fits if there is one.
func takesOne() map[string]func(p uint64, m table) answer {
	return map[string]func(p uint64, m table) answer{
		"Check":   func(p uint64, m table) answer { return answer{e: matrix.Check(p, m)} },
		"Apply":   func(p uint64, m table) answer { return row(matrix.Apply(p, m, ones(width(m)))) },
		"Reduce":  func(p uint64, m table) answer { return reduction(matrix.Reduce(p, m)) },
		"Rank":    func(p uint64, m table) answer { return number(matrix.Rank(p, m)) },
		"Det":     func(p uint64, m table) answer { return number(matrix.Det(p, m)) },
		"Inverse": func(p uint64, m table) answer { return got(matrix.Inverse(p, m)) },
		"Solve":   func(p uint64, m table) answer { return row(matrix.Solve(p, m, ones(len(m)))) },
		"Null":    func(p uint64, m table) answer { return got(matrix.Null(p, m)) },
		"Mul":     func(p uint64, m table) answer { return got(matrix.Mul(p, m, m)) },
	}
}

func ones(n int) []uint64 {
	return slices.Repeat(list(1), n)
}

func width(m table) int {
	if len(m) == 0 {
		return 0
	}
	return len(m[0])
}

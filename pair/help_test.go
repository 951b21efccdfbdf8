package pair_test

import (
	"math"
	"math/rand"
	"slices"
	"testing"

	"junto/api"
	"junto/pair"
)

var primes = []uint64{3, 5, 7, 11, 13, 17, 67, 211, 65521, 65537}

// badPrimes are not primes as the document defines them. Some are congruent to a prime modulo a power of 2.
var badPrimes = []uint64{0, 1, 2, 4, 9, 65535, 65536, 65539, 1<<16 + 7, 1<<32 + 7, 1<<63 + 7, 1<<64 - 1}

// badThresholds are outside the limits of t.
var badThresholds = []int{math.MinInt, -1 << 62, -2, -1, 4, 5, 13, 1 << 32, 1 << 62, math.MaxInt - 1, math.MaxInt}

// sizes are the numbers of elements that are drawn for a pair with t = 0, 1, 2, 3.
var sizes = []int{0, 2, 5, 9}

// notBelow returns numbers that are not elements modulo p.
func notBelow(p uint64) []uint64 {
	return []uint64{p, p + 1, 2 * p, 1 << 32, 1<<32 + 1, 1 << 63, 1<<64 - 1}
}

// list makes lists of numbers shorter to write.
func list(l ...uint64) []uint64 {
	return l
}

func randomFor(p uint64) *rand.Rand {
	return rand.New(rand.NewSource(int64(p)))
}

// drawn returns n random field elements.
func drawn(random *rand.Rand, p uint64, n int) []uint64 {
	l := make([]uint64, n)
	for i := range l {
		l[i] = random.Uint64() % p
	}
	return l
}

// places returns n different arguments from low to p - 1, or all of them if these are fewer, in random order. They are
// close to 0 or to p.
func places(random *rand.Rand, p uint64, n int, low uint64) []uint64 {
	var near []uint64
	for x := low; x < p; x++ {
		if x < 15 || x+5 > p {
			near = append(near, x)
		}
	}
	random.Shuffle(len(near), func(i, k int) { near[i], near[k] = near[k], near[i] })
	return near[:min(n, len(near))]
}

// mirror is the reference for pairs: f[i][k] is where i and k lead in the upper half, row by row.
func mirror(t int, upper []uint64) [][]uint64 {
	f := blank(t)
	for i := range f {
		for k := range f {
			low, high := min(i, k), max(i, k)
			before := 0
			for r := range low {
				before += t + 1 - r
			}
			f[i][k] = upper[before+high-low]
		}
	}
	return f
}

// blank returns the pair of zeros.
func blank(t int) [][]uint64 {
	f := make([][]uint64, t+1)
	for i := range f {
		f[i] = make([]uint64, t+1)
	}
	return f
}

func randomPair(random *rand.Rand, p uint64, t int) [][]uint64 {
	return mirror(t, drawn(random, p, sizes[t]+1))
}

// copied returns the rows in new memory.
func copied(f [][]uint64) [][]uint64 {
	g := make([][]uint64, len(f))
	for i, row := range f {
		g[i] = slices.Clone(row)
	}
	return g
}

// with returns the matrix with x as f[i][k] and f[k][i], in new memory.
func with(f [][]uint64, i, k int, x uint64) [][]uint64 {
	f = copied(f)
	f[i][k], f[k][i] = x, x
	return f
}

// skew returns the matrix with x as f[i][k] alone, in new memory.
func skew(f [][]uint64, i, k int, x uint64) [][]uint64 {
	f = copied(f)
	f[i][k] = x
	return f
}

// padded returns the list with n more zeros, in new memory.
func padded(l []uint64, n int) []uint64 {
	return append(slices.Clone(l), make([]uint64, n)...)
}

// stripped is the reference for polynomials without trailing zeros.
func stripped(f []uint64) []uint64 {
	n := len(f)
	for n > 0 && f[n-1] == 0 {
		n--
	}
	return f[:n]
}

func power(p, x uint64, n int) uint64 {
	result := uint64(1)
	for range n {
		result = result * x % p
	}
	return result
}

// value is the reference for values of polynomials in one variable.
func value(p uint64, f []uint64, x uint64) uint64 {
	sum := uint64(0)
	for i, c := range f {
		sum = (sum + c*power(p, x, i)) % p
	}
	return sum
}

// at is the reference for values of pairs: the sum of the terms.
func at(p uint64, f [][]uint64, x, y uint64) uint64 {
	sum := uint64(0)
	for i, row := range f {
		for k, c := range row {
			sum = (sum + c*power(p, x, i)%p*power(p, y, k)) % p
		}
	}
	return sum
}

// rowOf is the reference for rows: the powers of x are summed for each power of y.
func rowOf(p uint64, f [][]uint64, x uint64) []uint64 {
	row := make([]uint64, len(f))
	for i := range f {
		for k, c := range f[i] {
			row[k] = (row[k] + c*power(p, x, i)) % p
		}
	}
	return stripped(row)
}

func rowsOf(p uint64, f [][]uint64, xs []uint64) [][]uint64 {
	var rows [][]uint64
	for _, x := range xs {
		rows = append(rows, rowOf(p, f, x))
	}
	return rows
}

// tuples returns all lists of n field elements.
func tuples(p uint64, n int) [][]uint64 {
	if n == 0 {
		return [][]uint64{nil}
	}
	var l [][]uint64
	for _, t := range tuples(p, n-1) {
		for x := range p {
			l = append(l, append(slices.Clone(t), x))
		}
	}
	return l
}

// arrangements returns all lists of n different numbers from low to p - 1.
func arrangements(p uint64, n int, low uint64) [][]uint64 {
	return slices.DeleteFunc(tuples(p, n), func(l []uint64) bool {
		for i, x := range l {
			if x < low || slices.Contains(l[:i], x) {
				return true
			}
		}
		return false
	})
}

// keyOf returns a key for maps, which is different for different lists of the same lengths.
func keyOf(rows [][]uint64, length int) string {
	key := ""
	for _, row := range rows {
		for _, x := range padded(row, length-len(row)) {
			key += string(rune('0' + x))
		}
	}
	return key
}

// answer is what a function of pair returned.
type answer struct {
	l [][]uint64
	e api.Errno
}

func got(l [][]uint64, e api.Errno) answer {
	return answer{l, e}
}

// polynomial makes an answer of a function that returns a list.
func polynomial(l []uint64, e api.Errno) answer {
	if e != api.OK && len(l) == 0 {
		return answer{nil, e}
	}
	return answer{[][]uint64{l}, e}
}

// number makes an answer of a function that returns a number.
func number(n uint64, e api.Errno) answer {
	if e != api.OK && n == 0 {
		return answer{nil, e}
	}
	return answer{[][]uint64{{n}}, e}
}

// made makes an answer of Make: the rows of the pair, and the rest of the tape.
func made(f [][]uint64, rest []uint64, e api.Errno) answer {
	if e != api.OK && len(f)+len(rest) == 0 {
		return answer{nil, e}
	}
	return answer{append(f, rest), e}
}

// taped makes an answer of Tape: the secret and the other numbers.
func taped(secret uint64, l []uint64, e api.Errno) answer {
	if e != api.OK && secret == 0 && len(l) == 0 {
		return answer{nil, e}
	}
	return answer{[][]uint64{{secret}, l}, e}
}

// disputed makes an answer of Quarrels.
func disputed(l [][2]int, e api.Errno) answer {
	var rows [][]uint64
	for _, indices := range l {
		rows = append(rows, list(uint64(indices[0]), uint64(indices[1])))
	}
	return answer{rows, e}
}

func equal(a, b [][]uint64) bool {
	return slices.EqualFunc(a, b, slices.Equal)
}

func (a answer) equals(b answer) bool {
	return a.e == b.e && equal(a.l, b.l)
}

func expect(t *testing.T, what string, a answer, want ...[]uint64) {
	t.Helper()
	if !a.equals(answer{want, api.OK}) {
		t.Errorf("%s is %v with error %d, not %v", what, a.l, a.e, want)
	}
}

// fails checks the error, and that it comes with zero values.
func fails(t *testing.T, what string, a answer, e api.Errno) {
	t.Helper()
	if !a.equals(answer{nil, e}) {
		t.Errorf("%s is %v with error %d, not error %d", what, a.l, a.e, e)
	}
}

// failsFirst checks that every function that takes a pair returns this error, whatever its other arguments are.
func failsFirst(t *testing.T, what string, p uint64, threshold int, f [][]uint64, want api.Errno) {
	t.Helper()
	if e := pair.Check(p, threshold, f); e != want {
		t.Errorf("Check with %s returns error %d, not %d", what, e, want)
	}
	fails(t, "Tape with "+what, taped(pair.Tape(p, threshold, f)), want)
	for _, x := range list(0, 1, p, 1<<64-1) {
		fails(t, "At with "+what, number(pair.At(p, threshold, f, x, 0)), want)
		fails(t, "At with "+what, number(pair.At(p, threshold, f, 1, x)), want)
		fails(t, "Row with "+what, polynomial(pair.Row(p, threshold, f, x)), want)
		for _, z := range [][]uint64{nil, {1}, {x}, {x, x, x, x, x}, make([]uint64, 300)} {
			fails(t, "Lift with "+what, got(pair.Lift(p, threshold, f, x, z)), want)
		}
	}
	good := blank(max(0, min(threshold, 3)))
	fails(t, "Add with "+what, got(pair.Add(p, threshold, f, good)), want)
	fails(t, "Add of the same with "+what, got(pair.Add(p, threshold, f, f)), want)
	fails(t, "Add with "+what+" second", got(pair.Add(p, threshold, good, f)), want)
}

package decode_test

import (
	"math"
	"math/rand"
	"slices"
	"testing"

	"junto/api"
)

var primes = []uint64{3, 5, 7, 11, 13, 17, 67, 211, 65521, 65537}

// badPrimes are not primes as the document defines them. Some are congruent to a prime modulo a power of 2.
var badPrimes = []uint64{0, 1, 2, 4, 9, 65535, 65536, 65539, 1<<16 + 7, 1<<32 + 7, 1<<63 + 7, 1<<64 - 1}

// badDegrees are outside the limits of a degree.
var badDegrees = []int{math.MinInt, -64, -1, 64, 65, 200, 1 << 32, math.MaxInt - 1, math.MaxInt}

// notBelow returns numbers that are not elements modulo p.
func notBelow(p uint64) []uint64 {
	return []uint64{p, p + 1, 2 * p, 1 << 32, 1<<32 + 1, 1 << 63, 1<<64 - 1}
}

// list makes lists of numbers shorter to write.
func list(l ...uint64) []uint64 {
	return l
}

func randomFor(p uint64) *rand.Rand {
	return rand.New(rand.NewSource(int64(p)))
}

// drawn returns n random field elements.
func drawn(random *rand.Rand, p uint64, n int) []uint64 {
	l := make([]uint64, n)
	for i := range l {
		l[i] = random.Uint64() % p
	}
	return l
}

// places returns n different arguments in random order, one of which is 0 if zero is true.
func places(random *rand.Rand, p uint64, n int, zero bool) []uint64 {
	var l []uint64
	if zero && n > 0 {
		l = append(l, 0)
	}
	for len(l) < n {
		if x := random.Uint64() % p; !slices.Contains(l, x) {
			l = append(l, x)
		}
	}
	random.Shuffle(len(l), func(i, j int) { l[i], l[j] = l[j], l[i] })
	return l
}

// firstPlaces returns n arguments in increasing order, the first of which is 0.
func firstPlaces(n int) []uint64 {
	l := make([]uint64, n)
	for i := range l {
		l[i] = uint64(i)
	}
	return l
}

// stripped is the reference for polynomials without trailing zeros.
func stripped(f []uint64) []uint64 {
	n := len(f)
	for n > 0 && f[n-1] == 0 {
		n--
	}
	return f[:n]
}

// at is the reference for values: the sum of the terms.
func at(p uint64, f []uint64, x uint64) uint64 {
	sum, power := uint64(0), uint64(1)
	for _, c := range f {
		sum = (sum + c*power%p) % p
		power = power * x % p
	}
	return sum
}

// values returns the points of f at these arguments.
func values(p uint64, f []uint64, xs []uint64) []api.Point {
	var l []api.Point
	for _, x := range xs {
		l = append(l, api.Point{X: x, Y: at(p, f, x)})
	}
	return l
}

// changed returns the points with other values at these indices, in new memory.
func changed(random *rand.Rand, p uint64, l []api.Point, indices ...int) []api.Point {
	l = slices.Clone(l)
	for _, i := range indices {
		l[i].Y = (l[i].Y + 1 + random.Uint64()%(p-1)) % p
	}
	return l
}

// choice returns count of the indices from 0 to n - 1, in increasing order.
func choice(random *rand.Rand, n, count int) []int {
	l := random.Perm(n)[:count]
	slices.Sort(l)
	return l
}

// off is the reference for wrong points.
func off(p uint64, f []uint64, l []api.Point) []int {
	var indices []int
	for i, point := range l {
		if at(p, f, point.X) != point.Y {
			indices = append(indices, i)
		}
	}
	return indices
}

// tuples returns all lists of n field elements.
func tuples(p uint64, n int) [][]uint64 {
	if n == 0 {
		return [][]uint64{nil}
	}
	var l [][]uint64
	for _, t := range tuples(p, n-1) {
		for x := range p {
			l = append(l, append(slices.Clone(t), x))
		}
	}
	return l
}

// most is the reference for Most: all numbers are tried.
func most(points, d int) int {
	e := -1
	for points >= 0 && d >= 0 && d+1+2*(e+1) <= points {
		e++
	}
	return e
}

// answer is what Decode, Best or Gaps returned.
type answer struct {
	f     []uint64
	wrong []int
	e     api.Errno
}

func got(f []uint64, wrong []int, e api.Errno) answer {
	return answer{f, wrong, e}
}

func (a answer) equals(b answer) bool {
	return slices.Equal(a.f, b.f) && slices.Equal(a.wrong, b.wrong) && a.e == b.e
}

func expect(t *testing.T, what string, a answer, f []uint64, wrong ...int) {
	t.Helper()
	if !a.equals(answer{stripped(f), wrong, api.OK}) {
		t.Errorf("%s is %v with wrong points %v and error %d, not %v with %v", what, a.f, a.wrong, a.e, stripped(f), wrong)
	}
}

// fails checks the error, and that it comes with zero values.
func fails(t *testing.T, what string, a answer, e api.Errno) {
	t.Helper()
	if !a.equals(answer{nil, nil, e}) {
		t.Errorf("%s is %v with wrong points %v and error %d, not error %d", what, a.f, a.wrong, a.e, e)
	}
}

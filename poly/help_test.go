package poly_test

import (
	"math/rand"
	"slices"
	"testing"

	"junto/api"
	"junto/poly"
)

var primes = []uint64{3, 5, 7, 11, 13, 211, 257, 65521, 65537}

// badPrimes are not primes as the document defines them. Some are congruent to a prime modulo a power of 2.
var badPrimes = []uint64{0, 1, 2, 4, 9, 65535, 65536, 65539, 1<<16 + 7, 1<<32 + 7, 1<<63 + 7, 1<<64 - 1}

// notBelow returns numbers that are not elements modulo p.
func notBelow(p uint64) []uint64 {
	return []uint64{p, p + 1, 2 * p, 1 << 32, 1<<32 + 1, 1 << 63, 1<<64 - 1}
}

// list makes lists of field elements shorter to write.
func list(l ...uint64) []uint64 {
	return l
}

// drawn returns n random field elements.
func drawn(random *rand.Rand, p uint64, n int) []uint64 {
	l := make([]uint64, n)
	for i := range l {
		l[i] = random.Uint64() % p
	}
	return l
}

// padded returns the coefficients with n more zeros, in new memory.
func padded(f []uint64, n int) []uint64 {
	return append(slices.Clone(f), make([]uint64, n)...)
}

// stripped is the reference for polynomials without trailing zeros.
func stripped(f []uint64) []uint64 {
	n := len(f)
	for n > 0 && f[n-1] == 0 {
		n--
	}
	return f[:n]
}

// tuples returns all lists of n field elements.
func tuples(p uint64, n int) [][]uint64 {
	if n == 0 {
		return [][]uint64{nil}
	}
	var l [][]uint64
	for _, t := range tuples(p, n-1) {
		for x := range p {
			l = append(l, append(slices.Clone(t), x))
		}
	}
	return l
}

// polynomials returns all polynomials of at most n coefficients if there are few, and random ones of several
// lengths otherwise. Some of them have trailing zeros.
func polynomials(p uint64, n int) [][]uint64 {
	if p <= 5 {
		return tuples(p, n)
	}
	random := rand.New(rand.NewSource(int64(p)))
	l := [][]uint64{nil, {0}, {1}, {p - 1}, {0, 0, 0}, {0, 1}, {1, p - 1}, {p - 1, p - 1, p - 1}}
	for length := range n + 2 {
		l = append(l, drawn(random, p, length), padded(drawn(random, p, length), 2))
	}
	return append(l, drawn(random, p, 15))
}

// at is the reference for values: the sum of the terms.
func at(p uint64, f []uint64, x uint64) uint64 {
	sum, power := uint64(0), uint64(1)
	for _, c := range f {
		sum = (sum + c*power%p) % p
		power = power * x % p
	}
	return sum
}

// times is the reference for products: all products of two terms are added.
func times(p uint64, f, g []uint64) []uint64 {
	terms := make([]uint64, len(f)+len(g))
	for i := range f {
		for j := range g {
			terms[i+j] = (terms[i+j] + f[i]*g[j]%p) % p
		}
	}
	return stripped(terms)
}

// plus is the reference for f + k * g.
func plus(p uint64, f []uint64, k uint64, g []uint64) []uint64 {
	terms := make([]uint64, max(len(f), len(g)))
	for i := range terms {
		if i < len(f) {
			terms[i] = f[i]
		}
		if i < len(g) {
			terms[i] = (terms[i] + k*g[i]%p) % p
		}
	}
	return stripped(terms)
}

// answer is what a function of poly returned.
type answer struct {
	f []uint64
	e api.Errno
}

func got(f []uint64, e api.Errno) answer {
	return answer{f, e}
}

// number makes an answer of a function that returns a number.
func number(n uint64, e api.Errno) answer {
	if e != api.OK && n == 0 {
		return answer{nil, e}
	}
	return answer{list(n), e}
}

// ratio makes an answer of Divide: the quotient, a number that is no coefficient, and the remainder.
func ratio(q, r []uint64, e api.Errno) answer {
	if len(q)+len(r) == 0 && e != api.OK {
		return answer{nil, e}
	}
	return answer{slices.Concat(q, list(1<<20), r), e}
}

func expect(t *testing.T, what string, a answer, want ...uint64) {
	t.Helper()
	if a.e != api.OK || !slices.Equal(a.f, want) {
		t.Errorf("%s is %v with error %d, not %v", what, a.f, a.e, want)
	}
}

// fails checks the error, and that it comes with a zero value.
func fails(t *testing.T, what string, a answer, e api.Errno) {
	t.Helper()
	if a.e != e || len(a.f) != 0 {
		t.Errorf("%s is %v with error %d, not error %d", what, a.f, a.e, e)
	}
}

// takesOne are the functions that take one polynomial.
func takesOne() map[string]func(p uint64, f []uint64) answer {
	return map[string]func(p uint64, f []uint64) answer{
		"Trim":  func(p uint64, f []uint64) answer { return got(poly.Trim(p, f)) },
		"Eval":  func(p uint64, f []uint64) answer { return number(poly.Eval(p, f, 2)) },
		"Scale": func(p uint64, f []uint64) answer { return got(poly.Scale(p, f, 2)) },
		"Slope": func(p uint64, f []uint64) answer { return got(poly.Slope(p, f)) },
		"Roots": func(p uint64, f []uint64) answer { return got(poly.Roots(p, f)) },
	}
}

// takesTwo are the functions that take two polynomials.
func takesTwo() map[string]func(p uint64, f, g []uint64) answer {
	return map[string]func(p uint64, f, g []uint64) answer{
		"Add":    func(p uint64, f, g []uint64) answer { return got(poly.Add(p, f, g)) },
		"Sub":    func(p uint64, f, g []uint64) answer { return got(poly.Sub(p, f, g)) },
		"Mul":    func(p uint64, f, g []uint64) answer { return got(poly.Mul(p, f, g)) },
		"Divide": func(p uint64, f, g []uint64) answer { return ratio(poly.Divide(p, f, g)) },
		"Gcd":    func(p uint64, f, g []uint64) answer { return got(poly.Gcd(p, f, g)) },
	}
}

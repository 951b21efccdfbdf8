package field_test

import (
	"math/big"
	"math/rand"
	"slices"
	"testing"

	"junto/api"
	"junto/field"
)

// smallPrimes are the primes for which the tests visit all pairs or triples of elements.
var smallPrimes = []uint64{3, 5, 7, 11, 13, 17}

// largePrimes include the largest prime below 2^16 and the largest prime of all.
var largePrimes = []uint64{257, 1009, 32749, 65521, 65537}

// badPrimes are not primes as the document defines them. Some are congruent to a prime modulo a power of 2.
var badPrimes = []uint64{0, 1, 2, 4, 9, 15, 255, 65535, 65536, 65539, 1<<16 + 7, 1<<32 + 7, 1<<63 + 7, 1<<64 - 1}

// notBelow returns numbers that are not elements modulo p.
func notBelow(p uint64) []uint64 {
	return []uint64{p, p + 1, 2 * p, 1 << 32, 1<<32 + 1, 1 << 63, 1<<64 - 1}
}

// modulo is the reference with which results are compared.
func modulo(x *big.Int, p uint64) uint64 {
	return new(big.Int).Mod(x, new(big.Int).SetUint64(p)).Uint64()
}

func number(x uint64) *big.Int {
	return new(big.Int).SetUint64(x)
}

// samples returns the elements next to the ends and the middle, and some others.
func samples(p uint64) []uint64 {
	random := rand.New(rand.NewSource(int64(p)))
	l := []uint64{0, 1, 2, p/2 - 1, p / 2, p/2 + 1, p - 2, p - 1}
	for range 30 {
		l = append(l, random.Uint64()%p)
	}
	slices.Sort(l)
	return slices.Compact(l)
}

// elements returns all elements of a small prime, and samples of a large one.
func elements(p uint64) []uint64 {
	if p > 300 {
		return samples(p)
	}
	l := make([]uint64, p)
	for i := range l {
		l[i] = uint64(i)
	}
	return l
}

func allPrimes() []uint64 {
	return slices.Concat(smallPrimes, largePrimes)
}

// result is a number that a function of field returned, and its error.
type result struct {
	n uint64
	e api.Errno
}

func value(n uint64, e api.Errno) result {
	return result{n, e}
}

func expect(t *testing.T, what string, got result, n uint64) {
	t.Helper()
	if got != (result{n, api.OK}) {
		t.Errorf("%s is %d with error %d, not %d", what, got.n, got.e, n)
	}
}

// fails checks the error, and that it comes with a zero value.
func fails(t *testing.T, what string, got result, e api.Errno) {
	t.Helper()
	if got != (result{0, e}) {
		t.Errorf("%s is %d with error %d, not error %d", what, got.n, got.e, e)
	}
}

// binary are the operations that take two elements.
func binary() map[string]func(p, a, b uint64) (uint64, api.Errno) {
	return map[string]func(p, a, b uint64) (uint64, api.Errno){
		"Add": field.Add, "Sub": field.Sub, "Mul": field.Mul, "Div": field.Div,
		"Sum": func(p, a, b uint64) (uint64, api.Errno) { return field.Sum(p, a, b) },
	}
}

// unary are the operations that take one element.
func unary() map[string]func(p, a uint64) (uint64, api.Errno) {
	return map[string]func(p, a uint64) (uint64, api.Errno){
		"Inv": field.Inv, "Root": field.Root,
		"Pow":   func(p, a uint64) (uint64, api.Errno) { return field.Pow(p, a, 3) },
		"Pow 0": func(p, a uint64) (uint64, api.Errno) { return field.Pow(p, a, 0) },
		"Sum":   func(p, a uint64) (uint64, api.Errno) { return field.Sum(p, 1, 1, a) },
		"Dot":   func(p, a uint64) (uint64, api.Errno) { return field.Dot(p, []uint64{1, a}, []uint64{1, 1}) },
		"Dot b": func(p, a uint64) (uint64, api.Errno) { return field.Dot(p, []uint64{1, 1}, []uint64{1, a}) },
		"Square": func(p, a uint64) (uint64, api.Errno) {
			is, e := field.Square(p, a)
			if is {
				return 1, e
			}
			return 0, e
		},
		"Inverses": func(p, a uint64) (uint64, api.Errno) {
			l, e := field.Inverses(p, []uint64{1, a})
			return uint64(len(l)), e
		},
	}
}

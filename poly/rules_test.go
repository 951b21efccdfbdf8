package poly_test

import (
	"slices"
	"testing"

	"junto/api"
	"junto/poly"
)

// Rules 6 and 7: first the prime, then the limit and the elements, argument by argument.

func TestBadPrimes(t *testing.T) {
	long := make([]uint64, 300)
	for _, p := range badPrimes {
		for _, f := range [][]uint64{nil, {0}, {1, 1}, long} {
			for name, call := range takesOne() {
				fails(t, name, call(p, f), api.ErrArg)
			}
			for name, call := range takesTwo() {
				fails(t, name, call(p, f, list(1)), api.ErrArg)
				fails(t, name, call(p, list(1), f), api.ErrArg)
			}
			fails(t, "Weights", got(poly.Weights(p, f, 0)), api.ErrArg)
			fails(t, "Away", got(poly.Away(p, f...)), api.ErrArg)
			fails(t, "Through", got(poly.Through(p, make([]api.Point, len(f)))), api.ErrArg)
		}
	}
}

func TestLimits(t *testing.T) {
	for _, p := range primes {
		for _, x := range append(notBelow(p), 0) {
			long := append(make([]uint64, 201), x)
			for name, call := range takesOne() {
				fails(t, name, call(p, long), api.ErrLimit)
			}
			for name, call := range takesTwo() {
				fails(t, name, call(p, long, list(1)), api.ErrLimit)
				fails(t, name, call(p, list(1), long), api.ErrLimit)
				fails(t, name, call(p, long, list(p)), api.ErrLimit)
				fails(t, name, call(p, list(p), long), api.ErrArg)
			}
		}
		for name, call := range takesTwo() {
			if a := call(p, padded(list(1), 200), padded(list(1), 200)); a.e != api.OK {
				t.Error(name, p, a)
			}
		}
	}
}

func TestNoElements(t *testing.T) {
	for _, p := range primes {
		for _, x := range notBelow(p) {
			for _, f := range [][]uint64{{x}, {1, x}, {x, 1}, append(make([]uint64, 200), x)} {
				for name, call := range takesOne() {
					fails(t, name, call(p, f), api.ErrArg)
				}
				for name, call := range takesTwo() {
					fails(t, name, call(p, f, list(1)), api.ErrArg)
					fails(t, name, call(p, list(1), f), api.ErrArg)
					fails(t, name, call(p, f, make([]uint64, 202)), api.ErrArg)
				}
			}
		}
	}
}

// Rule 4: arguments are neither modified nor shared.

func TestMemory(t *testing.T) {
	f, g := list(1, 2, 3, 0, 0), list(4, 5, 0)
	l := []api.Point{{X: 1, Y: 2}, {X: 2, Y: 2}}
	var results [][]uint64
	for _, call := range takesOne() {
		results = append(results, call(7, f).f)
	}
	for _, call := range takesTwo() {
		results = append(results, call(7, f, g).f, call(7, g, f).f, call(7, f, list(0)).f, call(7, list(0), f).f)
	}
	for _, k := range list(0, 1) {
		scaled, _ := poly.Scale(7, f, k)
		weights, _ := poly.Weights(7, f[:3], k)
		results = append(results, scaled, weights)
	}
	away, _ := poly.Away(7, f[:3]...)
	through, _ := poly.Through(7, l)
	quotient, rest, _ := poly.Divide(7, g, f)
	same, _, _ := poly.Divide(7, f, list(1))
	results = append(results, away, through, quotient, rest, same)
	for _, r := range results {
		for i := range r {
			r[i] = 100
		}
		_ = append(r, 100)
	}
	if !slices.Equal(f, list(1, 2, 3, 0, 0)) || !slices.Equal(g, list(4, 5, 0)) {
		t.Error(f, g)
	}
	if !slices.Equal(l, []api.Point{{X: 1, Y: 2}, {X: 2, Y: 2}}) {
		t.Error(l)
	}
}

func TestQuotientAndRemainderAreSeparate(t *testing.T) {
	q, r, _ := poly.Divide(7, list(1, 2, 3, 4), list(1, 0, 1))
	_ = append(q[:0], 100, 100, 100, 100)
	_ = append(q, 100, 100, 100, 100)
	if sum := plus(7, times(7, list(3, 4), list(1, 0, 1)), 1, r); !slices.Equal(sum, list(1, 2, 3, 4)) {
		t.Error(r)
	}
}

// The document's P1 and P2: all calls end without a panic, and twice with the same results.

func TestAnyArguments(t *testing.T) {
	numbers := list(0, 1, 2, 3, 7, 257, 65536, 65537, 1<<32, 1<<32+7, 1<<64-1)
	lists := [][]uint64{nil, {0}, {1}, {2, 1}, {0, 0, 1}, {6, 0}, {256, 1}, {1, 1 << 63}, numbers, make([]uint64, 201), make([]uint64, 1000)}
	same := func(name string, a, b answer) {
		if a.e != b.e || !slices.Equal(a.f, b.f) {
			t.Error(name, a, b)
		}
	}
	for _, p := range numbers {
		for _, f := range lists {
			for name, call := range takesOne() {
				same(name, call(p, f), call(p, f))
			}
			for _, g := range lists {
				for name, call := range takesTwo() {
					same(name, call(p, f, g), call(p, f, g))
				}
			}
			for _, x := range numbers {
				same("Eval", number(poly.Eval(p, f, x)), number(poly.Eval(p, f, x)))
				same("Scale", got(poly.Scale(p, f, x)), got(poly.Scale(p, f, x)))
				same("Weights", got(poly.Weights(p, f, x)), got(poly.Weights(p, f, x)))
			}
			same("Away", got(poly.Away(p, f...)), got(poly.Away(p, f...)))
		}
	}
}

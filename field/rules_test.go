package field_test

import (
	"math"
	"slices"
	"testing"

	"junto/api"
	"junto/field"
)

// P1.1

func TestIs(t *testing.T) {
	const end = 3 * api.MaxPrime
	composite := make([]bool, end)
	for d := 2; d < end; d++ {
		if want := d >= 3 && d <= api.MaxPrime && !composite[d]; field.Is(uint64(d)) != want {
			t.Error(d, !want)
		}
		for m := 2 * d; m < end; m += d {
			composite[m] = true
		}
	}
}

func TestIsOfOtherNumbers(t *testing.T) {
	for _, p := range allPrimes() {
		if !field.Is(p) {
			t.Error(p)
		}
	}
	for _, p := range badPrimes {
		if field.Is(p) {
			t.Error(p)
		}
	}
	for shift := 17; shift < 64; shift++ {
		if p := 1<<shift | uint64(7); field.Is(p) {
			t.Error(p)
		}
	}
}

// Rule 6: the prime is checked first, and then the elements.

func TestBadPrimes(t *testing.T) {
	for _, p := range badPrimes {
		for name, f := range binary() {
			fails(t, name, value(f(p, 0, 0)), api.ErrArg)
			fails(t, name, value(f(p, 1, 1)), api.ErrArg)
		}
		for name, f := range unary() {
			fails(t, name, value(f(p, 0)), api.ErrArg)
			fails(t, name, value(f(p, 1)), api.ErrArg)
		}
		fails(t, "Int", value(field.Int(p, 1)), api.ErrArg)
		fails(t, "Sum of nothing", value(field.Sum(p)), api.ErrArg)
		fails(t, "Dot of nothing", value(field.Dot(p, nil, nil)), api.ErrArg)
	}
}

func TestNoElements(t *testing.T) {
	for _, p := range allPrimes() {
		for _, x := range notBelow(p) {
			for name, f := range binary() {
				fails(t, name, value(f(p, x, 0)), api.ErrArg)
				fails(t, name, value(f(p, x, 1)), api.ErrArg)
				fails(t, name, value(f(p, 1, x)), api.ErrArg)
				fails(t, name, value(f(p, x, x)), api.ErrArg)
			}
			for name, f := range unary() {
				fails(t, name, value(f(p, x)), api.ErrArg)
			}
		}
	}
}

// Rule 4: arguments are neither modified nor shared.

func TestArgumentsAreNotModified(t *testing.T) {
	a, b, tape := []uint64{1, 2, 3}, []uint64{4, 5, 6}, []uint64{9, 1, 30}
	field.Sum(7, a...)
	field.Dot(7, a, b)
	field.Inverses(7, a)
	field.Draw(7, tape, 2)
	if !slices.Equal(a, []uint64{1, 2, 3}) || !slices.Equal(b, []uint64{4, 5, 6}) || !slices.Equal(tape, []uint64{9, 1, 30}) {
		t.Error(a, b, tape)
	}
}

func TestResultsAreNewMemory(t *testing.T) {
	l := []uint64{1, 6, 1, 6}
	inverses, _ := field.Inverses(7, l) // every element is its own inverse
	drawn, rest, _ := field.Draw(7, l, 2)
	again, all, _ := field.Draw(7, l, 0)
	for _, r := range [][]uint64{inverses, drawn, rest, again, all} {
		for i := range r {
			r[i] = 100
		}
		_ = append(r, 100)
	}
	if !slices.Equal(l, []uint64{1, 6, 1, 6}) {
		t.Error(l)
	}
}

func TestDrawnAndRestAreSeparate(t *testing.T) {
	drawn, rest, _ := field.Draw(7, []uint64{1, 2, 3, 4}, 2)
	_ = append(drawn, 100, 100)
	if !slices.Equal(rest, []uint64{3, 4}) {
		t.Error(rest)
	}
	_ = append(rest[:0], 100)
	if !slices.Equal(drawn, []uint64{1, 2}) {
		t.Error(drawn)
	}
}

// The document's P1 and P2: all calls end without a panic, and twice with the same results.

func TestAnyArguments(t *testing.T) {
	numbers := []uint64{0, 1, 2, 3, 7, 255, 257, 65536, 65537, 65538, 1 << 32, 1<<32 + 7, 1 << 63, 1<<64 - 1}
	for _, p := range numbers {
		for _, a := range numbers {
			for _, b := range numbers {
				for name, f := range binary() {
					if value(f(p, a, b)) != value(f(p, a, b)) {
						t.Error(name, p, a, b)
					}
				}
				if value(field.Pow(p, a, b)) != value(field.Pow(p, a, b)) {
					t.Error("Pow", p, a, b)
				}
			}
			for name, f := range unary() {
				if value(f(p, a)) != value(f(p, a)) {
					t.Error(name, p, a)
				}
			}
			if value(field.Int(p, int64(a))) != value(field.Int(p, int64(a))) {
				t.Error("Int", p, a)
			}
		}
		for _, n := range []int{math.MinInt, -1, 0, 1, 20, 1 << 16, 1<<16 + 1, math.MaxInt} {
			drawn, rest, e := field.Draw(p, numbers, n)
			drawn2, rest2, e2 := field.Draw(p, numbers, n)
			if !slices.Equal(drawn, drawn2) || !slices.Equal(rest, rest2) || e != e2 {
				t.Error("Draw", p, n)
			}
		}
	}
}

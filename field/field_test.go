package field_test

import (
	"math"
	"math/big"
	"math/rand"
	"slices"
	"testing"

	"junto/api"
	"junto/field"
)

// P1.2

func TestAddSubMul(t *testing.T) {
	for _, p := range allPrimes() {
		for _, a := range elements(p) {
			for _, b := range elements(p) {
				x, y := number(a), number(b)
				expect(t, "Add", value(field.Add(p, a, b)), modulo(new(big.Int).Add(x, y), p))
				expect(t, "Sub", value(field.Sub(p, a, b)), modulo(new(big.Int).Sub(x, y), p))
				expect(t, "Mul", value(field.Mul(p, a, b)), modulo(new(big.Int).Mul(x, y), p))
			}
		}
	}
}

func TestSum(t *testing.T) {
	for _, p := range allPrimes() {
		expect(t, "Sum of nothing", value(field.Sum(p)), 0)
		expect(t, "Sum of one", value(field.Sum(p, p-1)), p-1)
		expect(t, "Sum of two", value(field.Sum(p, p-1, 2)), 1)
		l := elements(p)
		sum := new(big.Int)
		for _, x := range l {
			sum.Add(sum, number(x))
		}
		expect(t, "Sum of many", value(field.Sum(p, l...)), modulo(sum, p))
	}
	expect(t, "Sum of 2^20 elements", value(field.Sum(65537, slices.Repeat([]uint64{65536}, 1<<20)...)), 65537-1<<20%65537)
}

func TestDot(t *testing.T) {
	for _, p := range allPrimes() {
		expect(t, "Dot of nothing", value(field.Dot(p, nil, []uint64{})), 0)
		a := elements(p)
		b := slices.Clone(a)
		rand.New(rand.NewSource(1)).Shuffle(len(b), func(i, j int) { b[i], b[j] = b[j], b[i] })
		sum := new(big.Int)
		for i := range a {
			sum.Add(sum, new(big.Int).Mul(number(a[i]), number(b[i])))
		}
		expect(t, "Dot", value(field.Dot(p, a, b)), modulo(sum, p))
	}
	l := slices.Repeat([]uint64{65536}, 1<<20)
	expect(t, "Dot of 2^20 elements", value(field.Dot(65537, l, l)), 1<<20%65537)
}

func TestDotOfDifferentLengths(t *testing.T) {
	fails(t, "Dot with a shorter b", value(field.Dot(7, []uint64{1, 2}, []uint64{3})), api.ErrArg)
	fails(t, "Dot with a longer b", value(field.Dot(7, []uint64{1}, []uint64{3, 4})), api.ErrArg)
	fails(t, "Dot with an empty b", value(field.Dot(7, []uint64{1}, nil)), api.ErrArg)
	fails(t, "Dot with an empty a", value(field.Dot(7, nil, []uint64{0})), api.ErrArg)
}

// P1.3

func TestInvAndDiv(t *testing.T) {
	for _, p := range allPrimes() {
		for _, b := range elements(p) {
			if b == 0 {
				continue
			}
			inverse := modulo(new(big.Int).ModInverse(number(b), number(p)), p)
			expect(t, "Inv", value(field.Inv(p, b)), inverse)
			for _, a := range elements(p) {
				expect(t, "Div", value(field.Div(p, a, b)), a*inverse%p)
			}
		}
	}
}

func TestZeroHasNoInverse(t *testing.T) {
	for _, p := range allPrimes() {
		fails(t, "Inv of 0", value(field.Inv(p, 0)), api.ErrZero)
		fails(t, "1 by 0", value(field.Div(p, 1, 0)), api.ErrZero)
		fails(t, "0 by 0", value(field.Div(p, 0, 0)), api.ErrZero)
		fails(t, "p by 0", value(field.Div(p, p, 0)), api.ErrArg)
	}
}

func TestInverses(t *testing.T) {
	for _, p := range allPrimes() {
		l := slices.DeleteFunc(elements(p), func(x uint64) bool { return x == 0 })
		l = append(l, l[len(l)/2], 1, p-1, p-1) // not sorted, with duplicates
		got, e := field.Inverses(p, l)
		if e != api.OK || len(got) != len(l) {
			t.Fatal(p, got, e)
		}
		for i, x := range l {
			if got[i] >= p || got[i]*x%p != 1 {
				t.Error(p, x, got[i])
			}
		}
	}
	for _, l := range [][]uint64{nil, {}} {
		if got, e := field.Inverses(7, l); len(got) != 0 || e != api.OK {
			t.Error(got, e)
		}
	}
	if got, e := field.Inverses(7, []uint64{3}); !slices.Equal(got, []uint64{5}) || e != api.OK {
		t.Error(got, e)
	}
}

func TestErrorsOfInverses(t *testing.T) {
	for _, x := range []struct {
		p uint64
		l []uint64
		e api.Errno
	}{
		{7, []uint64{0}, api.ErrZero},
		{7, []uint64{0, 1, 2}, api.ErrZero},
		{7, []uint64{1, 0, 2}, api.ErrZero},
		{7, []uint64{1, 2, 0}, api.ErrZero},
		{7, []uint64{1, 7}, api.ErrArg},
		{7, []uint64{0, 7}, api.ErrArg},
		{7, []uint64{7, 0}, api.ErrArg},
		{8, []uint64{0}, api.ErrArg},
		{8, nil, api.ErrArg},
	} {
		if l, e := field.Inverses(x.p, x.l); len(l) != 0 || e != x.e {
			t.Error(x, l, e)
		}
	}
}

// P1.4

func TestPow(t *testing.T) {
	exponents := []uint64{0, 1, 2, 3, 4, 5, 31, 65536, 65537, 1<<32 - 1, 1 << 32, 1 << 63, 1<<64 - 2, 1<<64 - 1}
	for _, p := range allPrimes() {
		for _, a := range elements(p) {
			for _, e := range append(exponents, p-2, p-1, p, p+1) {
				want := new(big.Int).Exp(number(a), number(e), number(p))
				expect(t, "Pow", value(field.Pow(p, a, e)), want.Uint64())
			}
		}
		expect(t, "0 to the power 0", value(field.Pow(p, 0, 0)), 1)
		expect(t, "0 to the power 1", value(field.Pow(p, 0, 1)), 0)
		expect(t, "0 to the greatest power", value(field.Pow(p, 0, 1<<64-1)), 0)
	}
}

// P1.5

func TestInt(t *testing.T) {
	for _, p := range allPrimes() {
		q := int64(p)
		for _, n := range []int64{
			0, 1, -1, 2, -2, q - 1, q, q + 1, -q + 1, -q, -q - 1, 2 * q, -2 * q,
			math.MaxInt32, math.MinInt32, math.MaxInt64, math.MaxInt64 - 1, math.MinInt64, math.MinInt64 + 1,
		} {
			expect(t, "Int", value(field.Int(p, n)), modulo(big.NewInt(n), p))
		}
	}
}

// P1.6

// leastRoots returns the smaller root of every square.
func leastRoots(p uint64) map[uint64]uint64 {
	roots := map[uint64]uint64{}
	for r := range p {
		a := r * r % p
		if _, seen := roots[a]; !seen {
			roots[a] = r
		}
	}
	return roots
}

func TestSquareAndRoot(t *testing.T) {
	for _, p := range allPrimes() {
		roots := leastRoots(p)
		for _, a := range elements(p) {
			root, want := roots[a]
			if is, e := field.Square(p, a); is != want || e != api.OK {
				t.Error("Square", p, a, is, e)
			}
			if want {
				expect(t, "Root", value(field.Root(p, a)), root)
			} else {
				fails(t, "Root of no square", value(field.Root(p, a)), api.ErrNone)
			}
		}
	}
}

func TestRootOfGreatestRoot(t *testing.T) {
	for _, p := range allPrimes() {
		half := (p - 1) / 2
		expect(t, "Root of the square of (p-1)/2", value(field.Root(p, half*half%p)), half)
		expect(t, "Root of the square of (p+1)/2", value(field.Root(p, (half+1)*(half+1)%p)), half)
		expect(t, "Root of 0", value(field.Root(p, 0)), 0)
		expect(t, "Root of 1", value(field.Root(p, 1)), 1)
	}
}

// P1.7

func TestDraw(t *testing.T) {
	tape := []uint64{9, 1, 30, 7, 1<<64 - 1, 6}
	for _, x := range []struct {
		tape        []uint64
		n           int
		drawn, rest []uint64
	}{
		{tape, 0, nil, tape},
		{tape, 1, []uint64{2}, tape[1:]},
		{tape, 3, []uint64{2, 1, 2}, tape[3:]},
		{tape, 5, []uint64{2, 1, 2, 0, 1}, tape[5:]},
		{tape, 6, []uint64{2, 1, 2, 0, 1, 6}, nil},
		{tape, 8, []uint64{2, 1, 2, 0, 1, 6, 0, 0}, nil},
		{nil, 0, nil, nil},
		{nil, 2, []uint64{0, 0}, nil},
		{[]uint64{}, 1, []uint64{0}, nil},
	} {
		drawn, rest, e := field.Draw(7, x.tape, x.n)
		if !slices.Equal(drawn, x.drawn) || !slices.Equal(rest, x.rest) || e != api.OK {
			t.Error(x, drawn, rest, e)
		}
	}
}

func TestDrawLimits(t *testing.T) {
	drawn, rest, e := field.Draw(65537, []uint64{65537, 65536, 1 << 16, 1<<16 + 2}, 1<<16)
	if len(drawn) != 1<<16 || len(rest) != 0 || e != api.OK {
		t.Fatal(len(drawn), len(rest), e)
	}
	want := append([]uint64{0, 65536, 65536, 1}, make([]uint64, 1<<16-4)...)
	if !slices.Equal(drawn, want) {
		t.Error(drawn[:8])
	}
	for _, n := range []int{-1, 1<<16 + 1, 1 << 32, math.MinInt, math.MaxInt} {
		if drawn, rest, e := field.Draw(7, []uint64{1, 2}, n); len(drawn) != 0 || len(rest) != 0 || e != api.ErrArg {
			t.Error(n, drawn, rest, e)
		}
	}
	for _, p := range badPrimes {
		if drawn, rest, e := field.Draw(p, []uint64{1, 2}, 1); len(drawn) != 0 || len(rest) != 0 || e != api.ErrArg {
			t.Error(p, drawn, rest, e)
		}
	}
}

// P1.8

func TestFieldLaws(t *testing.T) {
	for _, p := range allPrimes() {
		add, mul := total(t, field.Add, p), total(t, field.Mul, p)
		l := elements(p)
		for _, a := range l {
			if add(a, 0) != a || mul(a, 1) != a {
				t.Error("neutral element", p, a)
			}
			if add(a, total(t, field.Sub, p)(0, a)) != 0 {
				t.Error("additive inverse", p, a)
			}
			if a != 0 && mul(a, total(t, field.Div, p)(1, a)) != 1 {
				t.Error("multiplicative inverse", p, a)
			}
			for _, b := range l {
				if add(a, b) != add(b, a) || mul(a, b) != mul(b, a) {
					t.Error("commutative law", p, a, b)
				}
			}
		}
		for _, x := range triples(p) {
			a, b, c := x[0], x[1], x[2]
			if add(add(a, b), c) != add(a, add(b, c)) || mul(mul(a, b), c) != mul(a, mul(b, c)) {
				t.Error("associative law", p, x)
			}
			if mul(a, add(b, c)) != add(mul(a, b), mul(a, c)) {
				t.Error("distributive law", p, x)
			}
		}
	}
}

// total returns the operation modulo p, which must not return an error.
func total(t *testing.T, f func(p, a, b uint64) (uint64, api.Errno), p uint64) func(a, b uint64) uint64 {
	return func(a, b uint64) uint64 {
		n, e := f(p, a, b)
		if e != api.OK || n >= p {
			t.Fatal(p, a, b, n, e)
		}
		return n
	}
}

// triples returns all triples of elements of a small prime, and random ones of a large prime.
func triples(p uint64) [][3]uint64 {
	var l [][3]uint64
	if p > 20 {
		random := rand.New(rand.NewSource(int64(p)))
		for range 2000 {
			l = append(l, [3]uint64{random.Uint64() % p, random.Uint64() % p, random.Uint64() % p})
		}
		return l
	}
	for a := range p {
		for b := range p {
			for c := range p {
				l = append(l, [3]uint64{a, b, c})
			}
		}
	}
	return l
}

// P1.9

func TestFermat(t *testing.T) {
	for _, p := range allPrimes() {
		squares := 0
		for a := range p {
			expect(t, "a to the power p", value(field.Pow(p, a, p)), a)
			power, _ := field.Pow(p, a, (p-1)/2)
			is, e := field.Square(p, a)
			if is != (power <= 1) || e != api.OK {
				t.Error(p, a, power, is, e)
			}
			if is {
				squares++
			}
		}
		if squares != int(p+1)/2 {
			t.Error(p, squares)
		}
	}
}

// The examples of the chapter.

func TestExamples(t *testing.T) {
	expect(t, "Inv", value(field.Inv(7, 3)), 5)
	expect(t, "Root", value(field.Root(7, 2)), 3)
	expect(t, "Int", value(field.Int(7, -1)), 6)
	if is, e := field.Square(7, 3); is || e != api.OK {
		t.Error(is, e)
	}
	drawn, rest, e := field.Draw(7, []uint64{9, 1}, 3)
	if !slices.Equal(drawn, []uint64{2, 1, 0}) || len(rest) != 0 || e != api.OK {
		t.Error(drawn, rest, e)
	}
}

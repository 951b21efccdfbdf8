package twice_test

import (
	"math"
	"slices"
	"testing"

	"junto/api"
	"junto/twice"
)

// P7.1

func TestCheck(t *testing.T) {
	for _, s := range setups() {
		random := randomFor(s)
		masks := [][][]uint64{make([][]uint64, s.T+1)}
		for _, x := range list(0, 1, s.P-1) {
			masks = append(masks, slices.Repeat([][]uint64{slices.Repeat(list(x), s.T+1)}, s.T+1))
		}
		for range 10 {
			l := randomMask(random, s)
			masks = append(masks, l, allStripped(l), replaced(l, random.Intn(s.T+1), nil))
		}
		for _, l := range masks {
			if e := twice.Check(s, l); e != api.OK {
				t.Error(s, l, e)
			}
		}
	}
}

func TestSetupIsFirst(t *testing.T) {
	for _, s := range badSetups() {
		for _, l := range [][][]uint64{nil, {}, {nil}, {{1}}, {{1, 2}, {3, 4}}, {{1, 2}, {3, 1 << 63}}, {{1, 2, 3}}, make([][]uint64, 4)} {
			failsFirst(t, "a bad setup", s, l, api.ErrArg)
		}
	}
}

func TestFormIsSecond(t *testing.T) {
	for _, s := range fewSetups() {
		l := randomMask(randomFor(s), s)
		failsFirst(t, "no lists", s, nil, api.ErrForm)
		failsFirst(t, "one list fewer", s, l[:s.T], api.ErrForm)
		failsFirst(t, "one list more", s, append(copied(l), list(1)), api.ErrForm)
		failsFirst(t, "one empty list more", s, append(copied(l), nil), api.ErrForm)
		failsFirst(t, "many lists", s, slices.Repeat(l, 1000), api.ErrForm)
		noElements := slices.Repeat([][]uint64{{s.P}}, s.T+1)
		failsFirst(t, "one list fewer and no elements", s, noElements[:s.T], api.ErrForm)
		failsFirst(t, "one list more and no elements", s, append(noElements, nil), api.ErrForm)
		for k := range l {
			for _, f := range [][]uint64{padded(nil, s.T+2), padded(list(1), s.T+1), padded(l[k], 300), append(padded(l[k], 0), s.P)} {
				failsFirst(t, "a longer list", s, replaced(l, k, f), api.ErrForm)
				failsFirst(t, "a longer list and no elements", s, replaced(noElements, k, f), api.ErrForm)
			}
		}
	}
}

func TestElementsAreThird(t *testing.T) {
	for _, s := range fewSetups() {
		l := randomMask(randomFor(s), s)
		for k := range l {
			for i := range l[k] {
				for _, x := range notBelow(s.P) {
					bad := copied(l)
					bad[k][i] = x
					failsFirst(t, "no element", s, bad, api.ErrArg)
					failsFirst(t, "no element at the end", s, replaced(l, k, append(make([]uint64, i), x)), api.ErrArg)
				}
			}
		}
	}
}

func TestSize(t *testing.T) {
	for threshold, want := range sizes {
		if n := twice.Size(threshold); n != want {
			t.Error(threshold, n)
		}
	}
	for _, threshold := range []int{math.MinInt, -1 << 62, -1 << 32, -2, -1, 4, 5, 13, 1 << 31, 1 << 32, 1<<32 + 1, 1 << 62, math.MaxInt} {
		if n := twice.Size(threshold); n != 0 {
			t.Error(threshold, n)
		}
	}
}

// P7.2

// makes is the reference for the answer of Make.
func makes(s api.Setup, secret uint64, tape []uint64) [][]uint64 {
	l := make([][]uint64, s.T+1)
	numbers := append(list(secret), padded(tape, sizes[s.T])[:sizes[s.T]]...)
	for i, x := range numbers {
		k := i / (s.T + 1)
		l[k] = append(l[k], x%s.P)
	}
	return append(allStripped(l), tape[min(len(tape), sizes[s.T]):])
}

func TestMake(t *testing.T) {
	for _, s := range setups() {
		random := randomFor(s)
		size := sizes[s.T]
		tapes := [][]uint64{nil, make([]uint64, 20), slices.Repeat(list(s.P), 20), slices.Repeat(list(1<<64-1), 20)}
		for _, length := range []int{1, s.T, s.T + 1, size - 1, size, size + 1, size + 3, 40} {
			tape := make([]uint64, max(0, length))
			for i := range tape {
				tape[i] = random.Uint64() // most of these numbers are not field elements
			}
			tapes = append(tapes, tape)
		}
		for _, tape := range tapes {
			for _, secret := range list(0, 1, s.P-1) {
				a := made(twice.Make(s, secret, tape))
				expect(t, "Make", a, makes(s, secret, tape)...)
				if e := twice.Check(s, a.l[:s.T+1]); e != api.OK {
					t.Error(s, a.l, e)
				}
			}
		}
	}
}

func TestMakeInOrder(t *testing.T) {
	s := api.Setup{P: 17, N: 9, T: 2}
	expect(t, "Make", made(twice.Make(s, 9, list(1, 2, 3, 4, 5, 6, 7, 8, 99, 0))), list(9, 1, 2), list(3, 4, 5), list(6, 7, 8), list(99, 0))
	expect(t, "Make", made(twice.Make(s, 9, list(17, 34, 3, 0, 0, 0, 7, 17))), list(9), list(3), list(0, 7), nil)
	expect(t, "Make", made(twice.Make(s, 0, list(0, 2, 18, 4))), list(0, 0, 2), list(1, 4), nil, nil)
	expect(t, "Make", made(twice.Make(api.Setup{P: 3, N: 1}, 2, list(5, 6))), list(2), list(5, 6))
	expect(t, "Make", made(twice.Make(api.Setup{P: 3, N: 1}, 0, nil)), nil, nil)
}

func TestMakeErrors(t *testing.T) {
	for _, tape := range [][]uint64{nil, {1}, make([]uint64, 20)} {
		for _, s := range setups() {
			for _, x := range notBelow(s.P) {
				fails(t, "Make", made(twice.Make(s, x, tape)), api.ErrArg)
			}
		}
		for _, s := range badSetups() {
			for _, x := range list(0, 1, s.P) {
				fails(t, "Make", made(twice.Make(s, x, tape)), api.ErrArg)
			}
		}
	}
}

// P7.3

func TestValues(t *testing.T) {
	for _, s := range setups() {
		random := randomFor(s)
		for range 10 {
			l := randomMask(random, s)
			for _, mask := range [][][]uint64{l, allStripped(l)} {
				expect(t, "Whole", polynomial(twice.Whole(s, mask)), entire(s.P, l))
				for _, x := range append(places(s.P), drawn(random, s.P, 3)...) {
					expect(t, "Low", number(twice.Low(s, mask, x)), list(value(s.P, l[0], x)))
					expect(t, "High", number(twice.High(s, mask, x)), list(value(s.P, entire(s.P, l), x)))
				}
			}
		}
	}
}

func TestValuesByHand(t *testing.T) {
	s := api.Setup{P: 7, N: 5, T: 1}
	l := [][]uint64{{2, 3}, {1, 4}}
	expect(t, "Whole", polynomial(twice.Whole(s, l)), list(2, 4, 4))
	expect(t, "Low", number(twice.Low(s, l, 1)), list(5))
	expect(t, "High", number(twice.High(s, l, 1)), list(3))
	s = api.Setup{P: 17, N: 9, T: 2}
	l = [][]uint64{{9, 1, 2}, {3, 4, 5}, {6, 7, 8}}
	expect(t, "Whole", polynomial(twice.Whole(s, l)), list(9, 4, 12, 12, 8))
	expect(t, "Low", number(twice.Low(s, l, 4)), list(11))
	expect(t, "High", number(twice.High(s, l, 4)), list(7))
	// The terms of the polynomials cancel each other.
	l = [][]uint64{{0, 1, 2}, {16, 14, 3}, {1, 14, 0}}
	expect(t, "Whole", polynomial(twice.Whole(s, l)), nil)
	expect(t, "High", number(twice.High(s, l, 2)), list(0))
	expect(t, "Whole of nothing", polynomial(twice.Whole(s, make([][]uint64, 3))), nil)
	s = api.Setup{P: 3, N: 1}
	expect(t, "Whole", polynomial(twice.Whole(s, [][]uint64{{2}})), list(2))
	expect(t, "Whole", polynomial(twice.Whole(s, [][]uint64{{0}})), nil)
	expect(t, "High", number(twice.High(s, [][]uint64{{2}}, 1)), list(2))
}

func TestPlacesMustBeElements(t *testing.T) {
	for _, s := range setups() {
		l := randomMask(randomFor(s), s)
		for _, mask := range [][][]uint64{l, make([][]uint64, s.T+1)} {
			for _, x := range notBelow(s.P) {
				fails(t, "Low", number(twice.Low(s, mask, x)), api.ErrArg)
				fails(t, "High", number(twice.High(s, mask, x)), api.ErrArg)
			}
		}
	}
}

// P7.4

func TestJoin(t *testing.T) {
	for _, s := range setups() {
		random := randomFor(s)
		for range 10 {
			l, values := randomMask(random, s), drawn(random, s.P, s.T+1)
			for _, x := range append(places(s.P), drawn(random, s.P, 3)...) {
				expect(t, "Join", number(twice.Join(s, values, x)), list(value(s.P, values, x)))
				expect(t, "Join", number(twice.Join(s, valuesAt(s.P, l, x), x)), list(value(s.P, entire(s.P, l), x)))
			}
		}
		expect(t, "Join of zeros", number(twice.Join(s, make([]uint64, s.T+1), s.P-1)), list(0))
	}
}

func TestJoinErrors(t *testing.T) {
	for _, s := range setups() {
		values := drawn(randomFor(s), s.P, s.T+1)
		for _, l := range [][]uint64{nil, {}, values[:s.T], padded(values, 1), append(padded(values, 0), s.P), padded(values, 300)} {
			for _, x := range list(0, 1, s.P) {
				fails(t, "Join of another number of values", number(twice.Join(s, l, x)), api.ErrArg)
			}
		}
		for _, x := range notBelow(s.P) {
			for i := range values {
				bad := slices.Clone(values)
				bad[i] = x
				fails(t, "Join of no element", number(twice.Join(s, bad, 0)), api.ErrArg)
				fails(t, "Join of no element", number(twice.Join(s, bad, 1)), api.ErrArg)
			}
			fails(t, "Join at no element", number(twice.Join(s, values, x)), api.ErrArg)
			fails(t, "Join of zeros at no element", number(twice.Join(s, make([]uint64, s.T+1), x)), api.ErrArg)
		}
	}
	for _, s := range badSetups() {
		for _, values := range [][]uint64{nil, {1}, {1, 2}, {1, 2, 3, 4}} {
			fails(t, "Join", number(twice.Join(s, values, 1)), api.ErrArg)
		}
	}
}

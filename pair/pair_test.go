package pair_test

import (
	"slices"
	"testing"

	"junto/api"
	"junto/pair"
)

// P6.1

func TestCheck(t *testing.T) {
	for _, p := range primes {
		random := randomFor(p)
		for threshold := range 4 {
			for range 20 {
				if f := randomPair(random, p, threshold); pair.Check(p, threshold, f) != api.OK {
					t.Error(p, threshold, f, pair.Check(p, threshold, f))
				}
			}
			for _, x := range list(0, 1, p-1) {
				f := mirror(threshold, slices.Repeat(list(x), 10))
				if e := pair.Check(p, threshold, f); e != api.OK {
					t.Error(p, threshold, f, e)
				}
			}
		}
	}
}

func TestPrimesAndThresholdsAreFirst(t *testing.T) {
	matrices := [][][]uint64{nil, {}, {{}}, {{1}}, {{1, 2}, {3, 1 << 63}}, blank(0), blank(1), blank(3), blank(4)}
	for _, f := range matrices {
		for _, p := range badPrimes {
			for _, threshold := range []int{-1, 0, 1, 3, 4} {
				failsFirst(t, "a bad prime", p, threshold, f, api.ErrArg)
			}
		}
		for _, p := range primes {
			for _, threshold := range badThresholds {
				failsFirst(t, "a bad threshold", p, threshold, f, api.ErrArg)
			}
		}
	}
}

func TestShapeIsSecond(t *testing.T) {
	for _, p := range primes {
		random := randomFor(p)
		for threshold := range 4 {
			f := randomPair(random, p, threshold)
			failsFirst(t, "no rows", p, threshold, nil, api.ErrForm)
			failsFirst(t, "one row fewer", p, threshold, f[:threshold], api.ErrForm)
			failsFirst(t, "one row more", p, threshold, append(copied(f), make([]uint64, threshold+1)), api.ErrForm)
			failsFirst(t, "one empty row more", p, threshold, append(copied(f), nil), api.ErrForm)
			failsFirst(t, "many rows", p, threshold, slices.Repeat([][]uint64{f[0]}, 1000), api.ErrForm)
			for other := range 4 {
				if other != threshold {
					failsFirst(t, "another threshold", p, threshold, blank(other), api.ErrForm)
				}
			}
			for i := range f {
				for _, row := range [][]uint64{nil, f[i][:threshold], padded(f[i], 1), padded(f[i], 300), append(padded(f[i], 0), p)} {
					bad := copied(f)
					bad[i] = row
					failsFirst(t, "a row of another length", p, threshold, bad, api.ErrForm)
					// The other rows have numbers that are not elements, and are not symmetric.
					for k := range bad {
						if k != i {
							bad[k] = slices.Repeat(list(p+uint64(k)), threshold+1)
						}
					}
					failsFirst(t, "a row of another length and no elements", p, threshold, bad, api.ErrForm)
				}
			}
		}
	}
}

func TestElementsAreThird(t *testing.T) {
	for _, p := range primes {
		random := randomFor(p)
		for threshold := range 4 {
			f := randomPair(random, p, threshold)
			for i := range f {
				for k := range f {
					for _, x := range notBelow(p) {
						failsFirst(t, "no element", p, threshold, with(f, i, k, x), api.ErrArg)
						failsFirst(t, "no element", p, threshold, skew(f, i, k, x), api.ErrArg)
					}
					if threshold > 0 {
						crooked := skew(f, 0, 1, (f[1][0]+1)%p)
						failsFirst(t, "no element in no symmetry", p, threshold, with(crooked, i, k, p), api.ErrArg)
						failsFirst(t, "no element in no symmetry", p, threshold, skew(crooked, i, k, p), api.ErrArg)
					}
				}
			}
		}
	}
}

func TestSymmetryIsLast(t *testing.T) {
	for _, p := range primes {
		random := randomFor(p)
		for threshold := range 4 {
			f := randomPair(random, p, threshold)
			for i := range f {
				for k := range f {
					if i != k {
						failsFirst(t, "no symmetry", p, threshold, skew(f, i, k, (f[i][k]+1)%p), api.ErrForm)
						failsFirst(t, "no symmetry", p, threshold, skew(blank(threshold), i, k, p-1), api.ErrForm)
					}
				}
			}
		}
	}
}

// Add returns all errors of its first pair before those of its second one.
func TestAddChecksTheFirstPairFirst(t *testing.T) {
	good, shapeless, element, crooked := blank(1), blank(2), with(blank(1), 1, 1, 7), skew(blank(1), 0, 1, 1)
	expect(t, "Add", got(pair.Add(7, 1, good, good)), good...)
	fails(t, "Add", got(pair.Add(7, 1, crooked, element)), api.ErrForm)
	fails(t, "Add", got(pair.Add(7, 1, element, crooked)), api.ErrArg)
	fails(t, "Add", got(pair.Add(7, 1, element, shapeless)), api.ErrArg)
	fails(t, "Add", got(pair.Add(7, 1, shapeless, element)), api.ErrForm)
}

func TestSize(t *testing.T) {
	for threshold, want := range sizes {
		if n := pair.Size(threshold); n != want {
			t.Error(threshold, n, want)
		}
	}
	for _, threshold := range badThresholds {
		if n := pair.Size(threshold); n != 0 {
			t.Error(threshold, n)
		}
	}
}

// P6.2

func TestMakeAndTape(t *testing.T) {
	for _, p := range primes {
		random := randomFor(p)
		for threshold, size := range sizes {
			for _, length := range []int{0, 1, size - 1, size, size + 1, size + 3, 40} {
				tape := make([]uint64, max(0, length))
				for i := range tape {
					tape[i] = random.Uint64() // most of these numbers are not field elements
				}
				used := padded(tape, size)[:size]
				for i := range used {
					used[i] %= p
				}
				rest := tape[min(size, len(tape)):]
				for _, secret := range list(0, 1, p-1) {
					f := mirror(threshold, append(list(secret), used...))
					expect(t, "Make", made(pair.Make(p, secret, threshold, tape)), append(copied(f), rest)...)
					expect(t, "Tape", taped(pair.Tape(p, threshold, f)), list(secret), used)
				}
			}
		}
	}
}

func TestOrderOfTheTape(t *testing.T) {
	expect(t, "Make", made(pair.Make(7, 3, 1, list(2, 5))), list(3, 2), list(2, 5), nil)
	expect(t, "Make", made(pair.Make(7, 3, 0, list(2, 5))), list(3), list(2, 5))
	expect(t, "Make", made(pair.Make(7, 3, 1, list(2, 5, 7, 8))), list(3, 2), list(2, 5), list(7, 8))
	expect(t, "Make", made(pair.Make(11, 0, 3, list(1, 2, 3, 4, 5, 6, 7, 8, 9, 10))),
		list(0, 1, 2, 3), list(1, 4, 5, 6), list(2, 5, 7, 8), list(3, 6, 8, 9), list(10))
	expect(t, "Make", made(pair.Make(11, 10, 2, list(11, 12))), list(10, 0, 1), list(0, 0, 0), list(1, 0, 0), nil)
	expect(t, "Make", made(pair.Make(11, 0, 1, nil)), list(0, 0), list(0, 0), nil)
	expect(t, "Tape", taped(pair.Tape(7, 1, [][]uint64{{3, 2}, {2, 5}})), list(3), list(2, 5))
	expect(t, "Tape", taped(pair.Tape(11, 2, [][]uint64{{0, 1, 2}, {1, 3, 4}, {2, 4, 5}})), list(0), list(1, 2, 3, 4, 5))
	expect(t, "Tape", taped(pair.Tape(7, 0, [][]uint64{{6}})), list(6), nil)
}

func TestMakeErrors(t *testing.T) {
	for _, p := range badPrimes {
		for _, secret := range list(0, 1, 1<<64-1) {
			fails(t, "Make with a bad prime", made(pair.Make(p, secret, 1, list(1, 2, 3))), api.ErrArg)
		}
	}
	for _, p := range primes {
		for _, threshold := range badThresholds {
			fails(t, "Make with a bad threshold", made(pair.Make(p, 0, threshold, list(1, 2, 3))), api.ErrArg)
		}
		for threshold := range 4 {
			for _, secret := range notBelow(p) {
				fails(t, "Make of no element", made(pair.Make(p, secret, threshold, list(1, 2, 3))), api.ErrArg)
				fails(t, "Make of no element", made(pair.Make(p, secret, threshold, nil)), api.ErrArg)
			}
		}
	}
}

// P6.3

func TestAtAndRow(t *testing.T) {
	for _, p := range primes {
		random := randomFor(p)
		for threshold := range 4 {
			for range 5 {
				f := randomPair(random, p, threshold)
				for _, x := range append(list(0, 1, p-1), drawn(random, p, 4)...) {
					expect(t, "Row", polynomial(pair.Row(p, threshold, f, x)), rowOf(p, f, x))
					for _, y := range append(list(0, 1, p-1), drawn(random, p, 4)...) {
						expect(t, "At", number(pair.At(p, threshold, f, x, y)), list(at(p, f, x, y)))
					}
				}
			}
		}
	}
}

func TestRowWithoutTrailingZeros(t *testing.T) {
	f := [][]uint64{{3, 2}, {2, 5}}
	expect(t, "Row", polynomial(pair.Row(7, 1, f, 1)), list(5))
	expect(t, "Row", polynomial(pair.Row(7, 1, f, 0)), list(3, 2))
	expect(t, "At", number(pair.At(7, 1, f, 1, 2)), list(5))
	// This is (x - 2) (y - 2), which is 0 for x = 2.
	expect(t, "Row", polynomial(pair.Row(7, 1, [][]uint64{{4, 5}, {5, 1}}, 2)), nil)
	expect(t, "At", number(pair.At(7, 1, [][]uint64{{4, 5}, {5, 1}}, 2, 6)), list(0))
	for threshold := range 4 {
		expect(t, "Row of zeros", polynomial(pair.Row(7, threshold, blank(threshold), 3)), nil)
		expect(t, "Row of a constant", polynomial(pair.Row(7, threshold, with(blank(threshold), 0, 0, 6), 3)), list(6))
	}
	for threshold := 1; threshold < 4; threshold++ {
		f := with(blank(threshold), threshold, threshold, 1)
		expect(t, "Row of one term", polynomial(pair.Row(7, threshold, f, 0)), nil)
		expect(t, "Row of one term", polynomial(pair.Row(7, threshold, f, 1)), append(make([]uint64, threshold), 1))
	}
}

func TestAtAndRowErrors(t *testing.T) {
	for _, p := range primes {
		for threshold := range 4 {
			f := randomPair(randomFor(p), p, threshold)
			for _, x := range notBelow(p) {
				fails(t, "Row at no element", polynomial(pair.Row(p, threshold, f, x)), api.ErrArg)
				fails(t, "Row at no element", polynomial(pair.Row(p, threshold, blank(threshold), x)), api.ErrArg)
				fails(t, "At no element", number(pair.At(p, threshold, f, x, 1)), api.ErrArg)
				fails(t, "At no element", number(pair.At(p, threshold, f, 1, x)), api.ErrArg)
				fails(t, "At no element", number(pair.At(p, threshold, blank(threshold), 0, x)), api.ErrArg)
				fails(t, "At no elements", number(pair.At(p, threshold, f, x, x)), api.ErrArg)
			}
		}
	}
}

// P6.4

func TestAdd(t *testing.T) {
	for _, p := range primes {
		random := randomFor(p)
		for threshold := range 4 {
			for range 10 {
				f, g := randomPair(random, p, threshold), randomPair(random, p, threshold)
				sum := blank(threshold)
				for i := range sum {
					for k := range sum {
						sum[i][k] = (f[i][k] + g[i][k]) % p
					}
				}
				expect(t, "Add", got(pair.Add(p, threshold, f, g)), sum...)
				expect(t, "Add of zeros", got(pair.Add(p, threshold, f, blank(threshold))), f...)
			}
			most := mirror(threshold, slices.Repeat(list(p-1), 10))
			expect(t, "Add of the greatest", got(pair.Add(p, threshold, most, most)), mirror(threshold, slices.Repeat(list(p-2), 10))...)
		}
	}
}

// lifted is the reference for Lift: the terms of z(x) z(y).
func lifted(p uint64, f [][]uint64, k uint64, z []uint64) [][]uint64 {
	f = copied(f)
	for i, a := range z {
		for j, b := range z {
			f[i][j] = (f[i][j] + a*b%p*k) % p
		}
	}
	return f
}

func TestLift(t *testing.T) {
	expect(t, "Lift", got(pair.Lift(7, 1, [][]uint64{{3, 2}, {2, 5}}, 2, list(1, 3))), list(5, 1), list(1, 2))
	for _, p := range primes {
		random := randomFor(p)
		for threshold := range 4 {
			most := mirror(threshold, slices.Repeat(list(p-1), 10))
			for n := range threshold + 2 {
				f, z := randomPair(random, p, threshold), drawn(random, p, n)
				for _, k := range append(list(0, 1, p-1), drawn(random, p, 4)...) {
					expect(t, "Lift", got(pair.Lift(p, threshold, f, k, z)), lifted(p, f, k, z)...)
					expect(t, "Lift of the greatest", got(pair.Lift(p, threshold, most, k, most[0][:min(n, threshold+1)])),
						lifted(p, most, k, most[0][:min(n, threshold+1)])...)
					long := padded(z, threshold+1-n)
					expect(t, "Lift with trailing zeros", got(pair.Lift(p, threshold, f, k, long)), lifted(p, f, k, z)...)
				}
				expect(t, "Lift by 0", got(pair.Lift(p, threshold, f, 0, z)), f...)
				expect(t, "Lift with nothing", got(pair.Lift(p, threshold, f, 1, nil)), f...)
			}
		}
	}
}

// The values of a lifted pair are those that the document says.
func TestValuesOfLift(t *testing.T) {
	for _, p := range primes {
		random := randomFor(p)
		for threshold := range 4 {
			f, k, z := randomPair(random, p, threshold), random.Uint64()%p, drawn(random, p, threshold+1)
			g, _ := pair.Lift(p, threshold, f, k, z)
			for range 10 {
				x, y := random.Uint64()%p, random.Uint64()%p
				want := (at(p, f, x, y) + value(p, z, x)*value(p, z, y)%p*k) % p
				expect(t, "At", number(pair.At(p, threshold, g, x, y)), list(want))
			}
		}
	}
}

// Every step of this test breaks one more of the conditions, in the reverse order of the chapter.
func TestLiftErrors(t *testing.T) {
	for _, p := range primes {
		for threshold := range 4 {
			f := randomPair(randomFor(p), p, threshold)
			for _, x := range notBelow(p) {
				for i := range threshold + 1 {
					z := make([]uint64, threshold+1)
					z[i] = x
					fails(t, "Lift with no element", got(pair.Lift(p, threshold, f, 1, z)), api.ErrArg)
					fails(t, "Lift with no element", got(pair.Lift(p, threshold, f, 0, z)), api.ErrArg)
					fails(t, "Lift with no element in a long list", got(pair.Lift(p, threshold, f, 1, padded(z, 1))), api.ErrLimit)
				}
				for _, n := range []int{0, 1, threshold + 1, threshold + 2, 300} {
					fails(t, "Lift by no element", got(pair.Lift(p, threshold, f, x, make([]uint64, n))), api.ErrArg)
					fails(t, "Lift by no element", got(pair.Lift(p, threshold, f, x, slices.Repeat(list(x), n))), api.ErrArg)
				}
			}
			for _, n := range []int{threshold + 2, threshold + 3, 201, 202, 1000} {
				fails(t, "Lift with a long list", got(pair.Lift(p, threshold, f, 1, make([]uint64, n))), api.ErrLimit)
				fails(t, "Lift with a long list", got(pair.Lift(p, threshold, f, 0, slices.Repeat(list(1), n))), api.ErrLimit)
			}
		}
	}
}

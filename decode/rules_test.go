package decode_test

import (
	"math"
	"slices"
	"testing"

	"junto/api"
	"junto/decode"
)

// failsFirst checks that all functions return an error of Check, whatever their other arguments are.
func failsFirst(t *testing.T, what string, p uint64, d int, l []api.Point, want api.Errno) {
	t.Helper()
	if e := decode.Check(p, d, l); e != want {
		t.Errorf("Check with %s returns error %d, not %d", what, e, want)
	}
	for _, wrong := range []int{math.MinInt, -1, 0, 1, 100, math.MaxInt} {
		fails(t, "Decode with "+what, got(decode.Decode(p, d, wrong, l)), want)
	}
	fails(t, "Best with "+what, got(decode.Best(p, d, l)), want)
	for _, n := range []int{0, 1, len(l), len(l) + 1} {
		fails(t, "Gaps with "+what, got(decode.Gaps(p, d, l, make([]bool, n))), want)
		fails(t, "Gaps with "+what, got(decode.Gaps(p, d, l, slices.Repeat([]bool{true}, n))), want)
	}
}

// The order of the errors of Check, which all functions return before their own errors. Every list breaks the
// conditions that are named later, too.

func TestPrimesAndDegreesAreFirst(t *testing.T) {
	same := slices.Repeat([]api.Point{{X: 1<<64 - 1, Y: 1<<64 - 1}}, 65)
	for _, n := range []int{0, 1, 2, 65} {
		for _, p := range badPrimes {
			failsFirst(t, "a bad prime", p, 1, same[:n], api.ErrArg)
			failsFirst(t, "a bad prime", p, 1, make([]api.Point, n), api.ErrArg)
			failsFirst(t, "a bad prime", p, -1, make([]api.Point, n), api.ErrArg)
		}
		for _, p := range primes {
			for _, d := range badDegrees {
				failsFirst(t, "a bad degree", p, d, same[:n], api.ErrArg)
				failsFirst(t, "a bad degree", p, d, make([]api.Point, n), api.ErrArg)
			}
		}
	}
}

func TestLimitIsSecond(t *testing.T) {
	for _, p := range primes {
		for _, n := range []int{65, 66, 201, 1000} {
			for _, d := range []int{0, 1, 63} {
				failsFirst(t, "many points", p, d, values(p, list(1), firstPlaces(n)), api.ErrLimit)
				failsFirst(t, "many equal points", p, d, make([]api.Point, n), api.ErrLimit)
				failsFirst(t, "many points of no elements", p, d, slices.Repeat([]api.Point{{X: p, Y: p}}, n), api.ErrLimit)
			}
		}
	}
	failsFirst(t, "many good points", 65537, 1, values(65537, list(1, 2), firstPlaces(65)), api.ErrLimit)
	expect(t, "Best of 64 points", got(decode.Best(65537, 1, values(65537, list(1, 2), firstPlaces(64)))), list(1, 2))
}

func TestElementsAreThird(t *testing.T) {
	for _, p := range primes {
		for _, x := range notBelow(p) {
			for _, bad := range []api.Point{{X: x}, {Y: x}, {X: x, Y: x}, {X: 1, Y: x}} {
				for _, n := range []int{0, 1, 2, 63} {
					same := make([]api.Point, n)
					failsFirst(t, "no elements last", p, 1, append(same, bad), api.ErrArg)
					failsFirst(t, "no elements first", p, 1, slices.Concat([]api.Point{bad}, same), api.ErrArg)
				}
				failsFirst(t, "no elements twice", p, 1, []api.Point{bad, bad}, api.ErrArg)
			}
		}
	}
}

func TestTwiceIsLast(t *testing.T) {
	for _, p := range primes {
		for _, d := range []int{0, 1, 63} {
			failsFirst(t, "equal points", p, d, make([]api.Point, 2), api.ErrTwice)
			failsFirst(t, "equal points", p, d, make([]api.Point, 64), api.ErrTwice)
			failsFirst(t, "equal arguments", p, d, []api.Point{{X: 1, Y: 1}, {X: 2, Y: 0}, {X: 1, Y: 2}}, api.ErrTwice)
		}
	}
}

// Gaps checks the points that are not there, too, though it does not count or report them.
func TestGapsChecksAllPoints(t *testing.T) {
	there := []bool{true, false, true}
	l := []api.Point{{X: 1, Y: 2}, {X: 2, Y: 0}, {X: 3, Y: 2}}
	expect(t, "Gaps", got(decode.Gaps(7, 0, l, there)), list(2))
	l[1] = api.Point{X: 2, Y: 7}
	fails(t, "Gaps of no element that is not there", got(decode.Gaps(7, 0, l, there)), api.ErrArg)
	l[1] = api.Point{X: 7, Y: 0}
	fails(t, "Gaps of no element that is not there", got(decode.Gaps(7, 0, l, there)), api.ErrArg)
	l[1] = api.Point{X: 1, Y: 2}
	fails(t, "Gaps of a duplicate that is not there", got(decode.Gaps(7, 0, l, there)), api.ErrTwice)
	many := values(65537, list(1), firstPlaces(65))
	fails(t, "Gaps of many points", got(decode.Gaps(65537, 0, many, append(make([]bool, 64), true))), api.ErrLimit)
}

// Rule 4: arguments are neither modified nor shared.

func TestMemory(t *testing.T) {
	for _, places := range [][]int{nil, {1}, {0, 4}, {5, 6}, {0, 3, 6}} {
		l := changed(randomFor(11), 11, values(11, list(4, 3), list(3, 8, 1, 0, 2, 7, 5)), places...)
		there := []bool{true, false, true, true, true, true, true}
		points, bools := slices.Clone(l), slices.Clone(there)
		calls := []func() answer{
			func() answer { return got(decode.Decode(11, 1, 2, l)) },
			func() answer { return got(decode.Best(11, 1, l)) },
			func() answer { return got(decode.Gaps(11, 1, l, there)) },
		}
		for _, call := range calls {
			first, second := call(), call()
			kept := answer{slices.Clone(second.f), slices.Clone(second.wrong), second.e}
			for i := range first.f {
				first.f[i] = 100
			}
			for i := range first.wrong {
				first.wrong[i] = 100
			}
			_, _ = append(first.f, 100), append(first.wrong, 100)
			if !second.equals(kept) || !call().equals(kept) {
				t.Error(places, second, kept)
			}
		}
		if !slices.Equal(l, points) || !slices.Equal(there, bools) {
			t.Error(places, l, there)
		}
	}
}

// The document's P1 and P2: all calls end without a panic, and twice with the same results.

func TestAnyArguments(t *testing.T) {
	numbers := []int{math.MinInt, -1, 0, 1, 2, 30, 63, 64, 1 << 62, math.MaxInt}
	lists := [][]api.Point{
		nil, {{}}, {{X: 1, Y: 2}}, {{X: 1}, {X: 1}}, {{X: 2, Y: 1}, {X: 0, Y: 2}, {X: 1, Y: 1}}, {{X: 1 << 63, Y: 1<<64 - 1}},
		values(67, list(1, 2), firstPlaces(63)), values(67, list(1, 2, 3), firstPlaces(64)), make([]api.Point, 1000),
	}
	for _, p := range slices.Concat(primes, badPrimes) {
		for _, l := range lists {
			for _, d := range numbers {
				if decode.Check(p, d, l) != decode.Check(p, d, l) {
					t.Error("Check", p, d, l)
				}
				for _, n := range numbers {
					if a, b := got(decode.Decode(p, d, n, l)), got(decode.Decode(p, d, n, l)); !a.equals(b) {
						t.Error("Decode", p, d, n, l, a, b)
					}
					if decode.Most(n, d) != decode.Most(n, d) {
						t.Error("Most", n, d)
					}
				}
				if a, b := got(decode.Best(p, d, l)), got(decode.Best(p, d, l)); !a.equals(b) {
					t.Error("Best", p, d, l, a, b)
				}
				for _, there := range [][]bool{nil, make([]bool, len(l)), slices.Repeat([]bool{true}, len(l))} {
					if a, b := got(decode.Gaps(p, d, l, there)), got(decode.Gaps(p, d, l, there)); !a.equals(b) {
						t.Error("Gaps", p, d, l, there, a, b)
					}
				}
			}
		}
	}
}

package twice_test

import (
	"math"
	"slices"
	"testing"

	"junto/api"
	"junto/twice"
)

// Rule 2: together with an error, the results are zero values. (All tests of errors check that, too.)

func TestZeroValuesWithErrors(t *testing.T) {
	s := api.Setup{P: 7, N: 5, T: 1}
	good, bad := [][]uint64{{2, 3}, {1, 4}}, [][]uint64{{2, 3}, {1, 7}}
	for _, a := range []answer{
		made(twice.Make(s, 7, list(3, 1, 4, 1, 5))), number(twice.Low(s, bad, 1)), number(twice.High(s, bad, 1)),
		number(twice.Low(s, good, 7)), number(twice.High(s, good, 7)), polynomial(twice.Whole(s, bad)),
		number(twice.Join(s, list(5, 5, 0), 1)), number(twice.Join(s, list(5, 7), 1)), number(twice.Join(s, list(5, 5), 7)),
		got(twice.Moved(s, good, list(1, 3), list(1, 7))), got(twice.Moved(s, good, list(1, 3), list(1, 0, 0))),
		got(twice.Moved(s, bad, list(1, 3), list(1))), cut(twice.Cut(s, []int{2}, list(1, 3, 1))), cut(twice.Cut(s, []int{6}, list(1, 3))),
	} {
		if a.e == api.OK || len(a.l) != 0 {
			t.Error(a)
		}
	}
}

// Rule 4: no function modifies or retains an argument, and slices in results are new memory.

func TestMemory(t *testing.T) {
	s := api.Setup{P: 11, N: 5, T: 1}
	l, short := [][]uint64{{4, 3}, {0, 5}}, [][]uint64{{4, 0}, nil}
	// Longer arrays lie behind these slices, so that appending to a slice would be noticed.
	tape, d := list(3, 1, 14, 9, 8, 7, 0)[:6], list(0, 2, 10, 0, 0, 0)[:5]
	z, q, values := list(1, 5, 9, 9)[:2], list(0, 2, 9, 9)[:2], list(8, 5, 9, 9)[:2]
	corrupted := []int{2}
	arguments := func() [][]uint64 {
		return slices.Concat(l, short, [][]uint64{tape[:7], d[:6], z[:4], q[:4], values[:4], {uint64(corrupted[0])}})
	}
	before := copied(arguments())
	calls := []func() answer{
		func() answer { return made(twice.Make(s, 4, tape)) },
		func() answer { return made(twice.Make(s, 4, tape[:2])) },
		func() answer { return made(twice.Make(api.Setup{P: 11, N: 1}, 4, tape)) },
		func() answer { return polynomial(twice.Whole(s, l)) },
		func() answer { return polynomial(twice.Whole(s, short)) },
		func() answer { return polynomial(twice.Whole(api.Setup{P: 11, N: 1}, l[1:])) },
		func() answer { return polynomial(twice.Whole(api.Setup{P: 11, N: 1}, [][]uint64{l[0][:1]})) },
		func() answer { return number(twice.Low(s, l, 3)) },
		func() answer { return number(twice.High(s, l, 3)) },
		func() answer { return number(twice.Join(s, values, 3)) },
		func() answer { return got(twice.Moved(s, l, z, q)) },
		func() answer { return got(twice.Moved(s, short, z, q)) },
		func() answer { return got(twice.Moved(s, l, z, nil)) },
		func() answer { return got(twice.Moved(s, l, nil, q)) },
		func() answer { return cut(twice.Cut(s, corrupted, d)) },
		func() answer { return cut(twice.Cut(s, nil, d)) },
		func() answer { return cut(twice.Cut(s, corrupted, d[:2])) },
		func() answer { return answer{nil, twice.Check(s, l)} },
	}
	for i, call := range calls {
		first, second := call(), call()
		kept := answer{copied(second.l), second.e}
		for k, f := range first.l {
			clear(f)
			for n := range 12 {
				f = append(f, uint64(100+n))
			}
			if rest := first.l[k+1:]; !equal(rest, kept.l[k+1:]) {
				t.Error(i, k, rest)
			}
		}
		if !second.equals(kept) || !call().equals(kept) {
			t.Error(i, second, kept)
		}
	}
	if !equal(arguments(), before) {
		t.Error(arguments())
	}
}

// The document's P1 and P2: all calls end without a panic, and twice with the same results.

func TestAnyArguments(t *testing.T) {
	numbers := list(0, 1, 2, 10, 11, 65537, 1<<32, 1<<64-1)
	lists := [][]uint64{nil, {}, {0}, {2, 1}, {0, 1, 2, 3}, {1 << 63}, numbers, make([]uint64, 201), make([]uint64, 1000)}
	masks := [][][]uint64{
		nil, {}, {nil}, {{}, {}}, {{1}}, {{1, 2}, {2}}, {{1, 2}, {1 << 63}}, {{1, 2}, {1, 2, 3}}, {{1, 2, 3}, {1}, {1, 2}},
		make([][]uint64, 4), lists[:2], lists, slices.Repeat(lists[2:5], 100),
	}
	parties := [][]int{nil, {}, {0}, {1}, {5}, {6}, {1, 1}, {1, 2}, {1, 7, 13}, {math.MinInt, math.MaxInt}, make([]int, 1000)}
	some := []api.Setup{{P: 3, N: 1}, {P: 11, N: 5, T: 1}, {P: 11, N: 9, T: 2}, {P: 65537, N: 13, T: 3}}
	for _, s := range append(badSetups(), some...) {
		for _, call := range anyCalls(s, masks, lists, parties, numbers) {
			if a, b := call(), call(); !a.equals(b) || a.e != api.OK && len(a.l) > 0 {
				t.Error(s, a, b)
			}
		}
	}
}

// anyCalls returns calls of all functions with these arguments.
func anyCalls(s api.Setup, masks [][][]uint64, lists [][]uint64, parties [][]int, numbers []uint64) []func() answer {
	calls := []func() answer{func() answer { return number(uint64(twice.Size(s.T)), api.OK) }}
	for _, l := range masks {
		calls = append(calls,
			func() answer { return answer{nil, twice.Check(s, l)} },
			func() answer { return polynomial(twice.Whole(s, l)) })
		for _, x := range numbers {
			calls = append(calls,
				func() answer { return number(twice.Low(s, l, x)) },
				func() answer { return number(twice.High(s, l, x)) })
		}
		for _, z := range lists {
			for _, q := range lists {
				calls = append(calls, func() answer { return got(twice.Moved(s, l, z, q)) })
			}
		}
	}
	for _, f := range lists {
		for _, x := range numbers {
			calls = append(calls,
				func() answer { return made(twice.Make(s, x, f)) },
				func() answer { return number(twice.Join(s, f, x)) })
		}
		for _, corrupted := range parties {
			calls = append(calls, func() answer { return cut(twice.Cut(s, corrupted, f)) })
		}
	}
	return calls
}

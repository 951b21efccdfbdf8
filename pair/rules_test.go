package pair_test

import (
	"math"
	"slices"
	"testing"

	"junto/api"
	"junto/pair"
)

// Rule 4: arguments are neither modified nor shared, and no two rows of a result share memory.

func TestMemory(t *testing.T) {
	f, g := [][]uint64{{4, 3, 1}, {3, 2, 0}, {1, 0, 5}}, [][]uint64{{0, 0, 6}, {0, 1, 2}, {6, 2, 0}}
	xs := list(3, 0, 5, 1)
	rows := rowsOf(11, f, xs)
	rows[1] = padded(rows[1], 2)
	wrong := append([][]uint64{{1, 2, 0}}, rows[1:]...)
	z, tape := list(1, 5), list(30, 9, 8, 0, 0, 12, 13)
	arguments := func() [][]uint64 { return slices.Concat(f, g, rows, wrong, [][]uint64{xs, z, tape}) }
	before := copied(arguments())
	calls := []func() answer{
		func() answer { return made(pair.Make(11, 4, 2, tape)) },
		func() answer { return taped(pair.Tape(11, 2, f)) },
		func() answer { return polynomial(pair.Row(11, 2, f, 0)) },
		func() answer { return polynomial(pair.Row(11, 2, f, 3)) },
		func() answer { return number(pair.At(11, 2, f, 3, 4)) },
		func() answer { return got(pair.Add(11, 2, f, g)) },
		func() answer { return got(pair.Add(11, 2, f, blank(2))) },
		func() answer { return got(pair.Lift(11, 2, f, 4, z)) },
		func() answer { return got(pair.Lift(11, 2, f, 0, nil)) },
		func() answer { return disputed(pair.Quarrels(11, xs, rows)) },
		func() answer { return disputed(pair.Quarrels(11, xs, wrong)) },
		func() answer { return got(pair.Join(11, 2, xs, rows)) },
		func() answer { return got(pair.Join(11, 2, xs, wrong)) },
		func() answer { return answer{nil, pair.Check(11, 2, f)} },
	}
	for i, call := range calls {
		first, second := call(), call()
		kept := answer{copied(second.l), second.e}
		for k, row := range first.l {
			clear(row)
			for n := range 12 {
				row = append(row, uint64(100+n))
			}
			_ = row
			if rest := first.l[k+1:]; !equal(rest, second.l[k+1:]) {
				t.Error(i, k, rest)
			}
		}
		if !second.equals(kept) || !call().equals(kept) {
			t.Error(i, second, kept)
		}
	}
	if !equal(arguments(), before) {
		t.Error(arguments())
	}
}

// The document's P1 and P2: all calls end without a panic, and twice with the same results.

func TestAnyArguments(t *testing.T) {
	integers := []int{math.MinInt, -1, 0, 1, 2, 3, 4, 1 << 32, math.MaxInt}
	numbers := list(0, 1, 2, 3, 65537, 1<<32, 1<<64-1)
	lists := [][]uint64{nil, {}, {0}, {2, 1}, {0, 1, 2, 3}, {1 << 63}, numbers, make([]uint64, 201), make([]uint64, 1000)}
	matrices := [][][]uint64{
		nil, {}, {nil}, {{}, {}}, {{1}}, {{1, 2}, {2, 0}}, {{1, 2}, {1, 0}}, {{0, 1, 2}, {1, 1, 1}, {2, 1, 0}}, {{0, 1, 2}, {1, 1}, {2}},
		blank(3), with(blank(3), 3, 3, 1<<64-1), lists, slices.Repeat(lists[2:5], 100),
	}
	for _, p := range slices.Concat(primes, badPrimes) {
		for _, threshold := range integers {
			for _, f := range matrices {
				for _, call := range anyCalls(p, threshold, f, matrices, lists, numbers) {
					if a, b := call(), call(); !a.equals(b) || a.e != api.OK && len(a.l) > 0 {
						t.Error(p, threshold, f, a, b)
					}
				}
			}
		}
	}
}

// anyCalls returns calls of all functions with these arguments.
func anyCalls(p uint64, threshold int, f [][]uint64, matrices [][][]uint64, lists [][]uint64, numbers []uint64) []func() answer {
	calls := []func() answer{
		func() answer { return answer{nil, pair.Check(p, threshold, f)} },
		func() answer { return number(uint64(pair.Size(threshold)), api.OK) },
		func() answer { return taped(pair.Tape(p, threshold, f)) },
	}
	for _, g := range matrices {
		calls = append(calls, func() answer { return got(pair.Add(p, threshold, f, g)) })
	}
	for _, l := range lists {
		calls = append(calls,
			func() answer { return disputed(pair.Quarrels(p, l, f)) },
			func() answer { return got(pair.Join(p, threshold, l, f)) })
		for _, x := range numbers {
			calls = append(calls,
				func() answer { return made(pair.Make(p, x, threshold, l)) },
				func() answer { return got(pair.Lift(p, threshold, f, x, l)) })
		}
	}
	for _, x := range numbers {
		calls = append(calls,
			func() answer { return polynomial(pair.Row(p, threshold, f, x)) },
			func() answer { return number(pair.At(p, threshold, f, x, 1)) },
			func() answer { return number(pair.At(p, threshold, f, 1, x)) })
	}
	return calls
}

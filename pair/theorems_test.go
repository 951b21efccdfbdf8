package pair_test

import (
	"testing"

	"junto/api"
	"junto/pair"
	"junto/poly"
)

// P6.7

func TestSymmetry(t *testing.T) {
	for _, p := range primes {
		random := randomFor(p)
		for threshold := range 4 {
			f := randomPair(random, p, threshold)
			xs := append(places(random, p, 8, 0), drawn(random, p, 4)...)
			for _, x := range xs {
				for _, y := range xs {
					there, e := pair.At(p, threshold, f, x, y)
					if e != api.OK {
						t.Error(p, f, x, y, e)
					}
					expect(t, "At", number(pair.At(p, threshold, f, y, x)), list(there))
					rowX, _ := pair.Row(p, threshold, f, x)
					rowY, _ := pair.Row(p, threshold, f, y)
					expect(t, "value of the row of x", number(poly.Eval(p, rowX, y)), list(there))
					expect(t, "value of the row of y", number(poly.Eval(p, rowY, x)), list(there))
				}
			}
		}
	}
}

// P6.8

// commits compares Join with a search of all pairs, for all rows of degree at most the threshold at these places.
func commits(t *testing.T, p uint64, threshold int, xs []uint64) {
	t.Helper()
	pairs := map[string][][][]uint64{}
	for _, upper := range tuples(p, sizes[threshold]+1) {
		f := mirror(threshold, upper)
		key := keyOf(rowsOf(p, f, xs), threshold+1)
		pairs[key] = append(pairs[key], f)
	}
	for _, all := range tuples(p, len(xs)*(threshold+1)) {
		var rows [][]uint64
		for i := range xs {
			rows = append(rows, all[i*(threshold+1):(i+1)*(threshold+1)])
		}
		quarrels, e := pair.Quarrels(p, xs, rows)
		a := got(pair.Join(p, threshold, xs, rows))
		found := pairs[keyOf(rows, threshold+1)]
		switch {
		case e != api.OK || len(found) > 1:
			t.Error("there are several pairs", p, xs, rows, found, e)
		case (len(found) == 1) != (len(quarrels) == 0):
			t.Error("consistency and existence differ", p, xs, rows, found, quarrels)
		case len(found) == 1:
			expect(t, "Join", a, found[0]...)
		default:
			fails(t, "Join", a, api.ErrWrong)
		}
	}
}

func TestCommitment(t *testing.T) {
	for n := 1; n <= 3; n++ {
		for _, xs := range arrangements(5, n, 0) {
			commits(t, 5, 0, xs)
		}
	}
	for n := 2; n <= 3; n++ {
		for _, xs := range arrangements(3, n, 0) {
			commits(t, 3, 1, xs)
		}
	}
	for _, xs := range arrangements(5, 2, 0) {
		commits(t, 5, 1, xs)
	}
	commits(t, 5, 1, list(4, 0, 2))
	commits(t, 3, 2, list(0, 1, 2))
	commits(t, 3, 2, list(2, 0, 1))
}

// P6.9

// hides checks that for each secret, each list of rows at these places comes from exactly one tape.
func hides(t *testing.T, p uint64, threshold int, xs []uint64) {
	t.Helper()
	tapes := tuples(p, sizes[threshold])
	lists := map[string]bool{}
	for secret := range p {
		seen := map[string]bool{}
		for _, tape := range tapes {
			f, _, e := pair.Make(p, secret, threshold, tape)
			if e != api.OK {
				t.Fatal(e)
			}
			key := keyOf(rowsThere(t, p, threshold, f, xs), threshold+1)
			seen[key] = true
			lists[key] = true
		}
		// No two tapes have led to the same rows; and as the rows of all secrets are no more, they are the same for each.
		if len(seen) != len(tapes) {
			t.Error("different tapes lead to the same rows", p, secret, xs, len(seen), len(tapes))
		}
	}
	if len(lists) != len(tapes) {
		t.Error("the rows reveal something about the secret", p, xs, len(lists), len(tapes))
	}
}

// rowsThere returns the rows that Row returns at these places.
func rowsThere(t *testing.T, p uint64, threshold int, f [][]uint64, xs []uint64) [][]uint64 {
	t.Helper()
	var rows [][]uint64
	for _, x := range xs {
		row, e := pair.Row(p, threshold, f, x)
		if e != api.OK {
			t.Fatal(p, f, x, e)
		}
		rows = append(rows, row)
	}
	return rows
}

func TestSecrecy(t *testing.T) {
	for _, p := range []uint64{3, 5, 7} {
		hides(t, p, 0, nil)
		for _, xs := range arrangements(p, 1, 1) {
			hides(t, p, 1, xs)
		}
	}
	hides(t, 3, 2, list(1, 2))
	hides(t, 3, 2, list(2, 1))
	hides(t, 5, 2, list(3, 1))
	hides(t, 5, 2, list(2, 4))
}

// Lift leads to the pair with another secret and the same rows at t nonzero places, which is the only one: the row at 0
// is determined by its values at 0 and these places, and then t + 1 rows are known.
func TestLiftToAnotherSecret(t *testing.T) {
	for _, p := range primes {
		random := randomFor(p)
		for threshold := range 4 {
			if uint64(threshold) >= p {
				continue
			}
			for range 10 {
				f, secret := randomPair(random, p, threshold), random.Uint64()%p
				xs := places(random, p, threshold, 1)
				rows := rowsOf(p, f, xs)
				z, _ := poly.Away(p, xs...)
				g, e := pair.Lift(p, threshold, f, (secret+p-f[0][0])%p, z)
				if e != api.OK || g[0][0] != secret || !equal(rowsThere(t, p, threshold, g, xs), rows) {
					t.Error(p, f, secret, xs, g, e)
				}
				points := []api.Point{{X: 0, Y: secret}}
				for i, x := range xs {
					points = append(points, api.Point{X: x, Y: value(p, rows[i], 0)})
				}
				first, _ := poly.Through(p, points)
				expect(t, "Join", got(pair.Join(p, threshold, append(xs, 0), append(rows, first))), g...)
				expect(t, "Lift back", got(pair.Lift(p, threshold, g, (f[0][0]+p-secret)%p, z)), f...)
			}
		}
	}
}

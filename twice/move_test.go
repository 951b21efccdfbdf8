package twice_test

import (
	"math"
	"slices"
	"testing"

	"junto/api"
	"junto/twice"
)

// P7.5

// moves is the reference for Moved.
func moves(p uint64, l [][]uint64, z, q []uint64) [][]uint64 {
	var moved [][]uint64
	for k, f := range l {
		moved = append(moved, plus(p, f, p-term(q, k), z))
	}
	return moved
}

func TestMoved(t *testing.T) {
	for _, s := range setups() {
		random := randomFor(s)
		for range 5 {
			l := randomMask(random, s)
			for zs := range s.T + 2 {
				for qs := range s.T + 2 {
					z, q := drawn(random, s.P, zs), drawn(random, s.P, qs)
					a := got(twice.Moved(s, l, z, q))
					expect(t, "Moved", a, moves(s.P, l, z, q)...)
					expect(t, "Moved without zeros", got(twice.Moved(s, allStripped(l), z, q)), a.l...)
					expect(t, "Moved with zeros", got(twice.Moved(s, l, padded(z, s.T+1-zs), padded(q, s.T+1-qs))), a.l...)
				}
			}
			expect(t, "Moved by nothing", got(twice.Moved(s, l, drawn(random, s.P, s.T+1), nil)), allStripped(l)...)
			expect(t, "Moved by nothing", got(twice.Moved(s, l, nil, drawn(random, s.P, s.T+1))), allStripped(l)...)
		}
	}
}

func TestMovedByHand(t *testing.T) {
	s := api.Setup{P: 7, N: 5, T: 1}
	l := [][]uint64{{2, 3}, {1, 4}}
	expect(t, "Moved", got(twice.Moved(s, l, list(1, 3), list(2, 1))), list(0, 4), list(0, 1))
	expect(t, "Moved", got(twice.Moved(s, l, list(1, 3), list(1))), list(1), list(1, 4))
	expect(t, "Moved", got(twice.Moved(s, l, list(1, 3), list(0, 6))), list(2, 3), list(2))
	expect(t, "Moved", got(twice.Moved(s, l, list(2, 3), list(1, 0))), nil, list(1, 4))
	expect(t, "Moved", got(twice.Moved(s, make([][]uint64, 2), list(1), list(0, 6))), nil, list(1))
}

func TestMovedErrors(t *testing.T) {
	for _, s := range fewSetups() {
		random := randomFor(s)
		l, good := randomMask(random, s), drawn(random, s.P, s.T+1)
		long := [][]uint64{
			make([]uint64, s.T+2), padded(list(1), s.T+1), drawn(random, s.P, s.T+2), append(slices.Clone(good), s.P),
			slices.Repeat(list(s.P), s.T+2), make([]uint64, 202), slices.Repeat(list(1<<64-1), 300),
		}
		var wrong [][]uint64
		for i := range good {
			for _, x := range notBelow(s.P) {
				bad := slices.Clone(good)
				bad[i] = x
				wrong = append(wrong, bad, bad[:i+1])
			}
		}
		for _, z := range long {
			for _, q := range slices.Concat([][]uint64{nil, good}, long, wrong) {
				fails(t, "Moved with a long z", got(twice.Moved(s, l, z, q)), api.ErrLimit)
			}
			fails(t, "Moved with a long q", got(twice.Moved(s, l, nil, z)), api.ErrLimit)
			fails(t, "Moved with a long q", got(twice.Moved(s, l, good, z)), api.ErrLimit)
		}
		for _, z := range wrong {
			for _, q := range slices.Concat([][]uint64{nil, good}, long, wrong) {
				fails(t, "Moved with no elements in z", got(twice.Moved(s, l, z, q)), api.ErrArg)
			}
			fails(t, "Moved with no elements in q", got(twice.Moved(s, l, nil, z)), api.ErrArg)
			fails(t, "Moved with no elements in q", got(twice.Moved(s, l, good, z)), api.ErrArg)
		}
	}
}

// P7.6

func TestCut(t *testing.T) {
	for _, s := range fewSetups() {
		random := randomFor(s)
		for _, corrupted := range groups(s) {
			z := away(s.P, corrupted)
			if value(s.P, z, 0) != 1 || len(z) != len(corrupted)+1 {
				t.Error(s, corrupted, z)
			}
			for _, n := range []int{0, 1, s.T, s.T + 1, 10} {
				q := drawn(random, s.P, n)
				d := product(s.P, q, z)
				expect(t, "Cut", cut(twice.Cut(s, corrupted, d)), z, stripped(q))
				expect(t, "Cut with zeros", cut(twice.Cut(s, corrupted, padded(d, 3))), z, stripped(q))
				for rests := 1; rests <= len(corrupted); rests++ {
					rest := append(drawn(random, s.P, rests-1), 1+random.Uint64()%(s.P-1))
					fails(t, "Cut with a rest", cut(twice.Cut(s, corrupted, plus(s.P, d, 1, rest))), api.ErrWrong)
				}
			}
		}
	}
}

func TestCutByHand(t *testing.T) {
	s := api.Setup{P: 7, N: 5, T: 1}
	expect(t, "Cut", cut(twice.Cut(s, []int{2}, list(1, 3))), list(1, 3), list(1))
	expect(t, "Cut", cut(twice.Cut(s, []int{2}, list(2, 0, 3))), list(1, 3), list(2, 1))
	expect(t, "Cut of nothing", cut(twice.Cut(s, []int{2}, nil)), list(1, 3), nil)
	expect(t, "Cut of zeros", cut(twice.Cut(s, []int{2}, list(0, 0, 0))), list(1, 3), nil)
	expect(t, "Cut without corrupted parties", cut(twice.Cut(s, nil, list(1, 2, 3, 0))), list(1), list(1, 2, 3))
	fails(t, "Cut", cut(twice.Cut(s, []int{2}, list(1))), api.ErrWrong)
	fails(t, "Cut", cut(twice.Cut(s, []int{2}, list(1, 3, 1))), api.ErrWrong)
	s = api.Setup{P: 11, N: 5, T: 1}
	expect(t, "Cut", cut(twice.Cut(s, []int{2}, list(0, 2, 10))), list(1, 5), list(0, 2))
}

func TestCutLimits(t *testing.T) {
	for _, s := range fewSetups() {
		random := randomFor(s)
		for _, corrupted := range groups(s) {
			z := away(s.P, corrupted)
			q := append(drawn(random, s.P, 200-len(corrupted)), 1)
			d := product(s.P, q, z)
			if len(d) != 201 {
				t.Fatal(s, corrupted, len(d))
			}
			expect(t, "Cut", cut(twice.Cut(s, corrupted, d)), z, q)
			expect(t, "Cut of zeros", cut(twice.Cut(s, corrupted, make([]uint64, 201))), z, nil)
			for _, long := range [][]uint64{padded(d, 1), make([]uint64, 202), slices.Repeat(list(s.P), 202), make([]uint64, 5000)} {
				fails(t, "Cut of too many coefficients", cut(twice.Cut(s, corrupted, long)), api.ErrLimit)
			}
			for _, x := range notBelow(s.P) {
				for _, bad := range [][]uint64{{x}, {0, x}, {x, 1, 2, 3}, append(slices.Clone(d[:200]), x)} {
					fails(t, "Cut of no elements", cut(twice.Cut(s, corrupted, bad)), api.ErrArg)
				}
			}
		}
	}
}

// The list of corrupted parties is the first to be checked.
func TestCutCorrupted(t *testing.T) {
	polynomials := [][]uint64{nil, {1}, {1 << 63}, make([]uint64, 202)}
	for _, s := range fewSetups() {
		tooMany := []int{1, 2, 3, 4}[:s.T+1]
		lists := [][]int{{0}, {-1}, {s.N + 1}, {1, 1}, {2, 1}, {1, 0}, {math.MinInt}, {math.MaxInt}, {1<<32 + 1}, tooMany, make([]int, 1000)}
		for _, corrupted := range lists {
			for _, d := range polynomials {
				fails(t, "Cut with bad parties", cut(twice.Cut(s, corrupted, d)), api.ErrArg)
			}
		}
	}
	for _, s := range badSetups() {
		for _, corrupted := range [][]int{nil, {1}, {0}} {
			for _, d := range polynomials {
				fails(t, "Cut with a bad setup", cut(twice.Cut(s, corrupted, d)), api.ErrArg)
			}
		}
	}
}

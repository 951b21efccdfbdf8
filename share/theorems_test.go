package share_test

import (
	"slices"
	"testing"

	"junto/api"
	"junto/share"
)

// fewSetups are setups with few polynomials, of which tests try all.
var fewSetups = []api.Setup{{P: 3, N: 1}, {P: 3, N: 2}, {P: 5, N: 3}, {P: 5, N: 4}, {P: 7, N: 3}}

// sharing makes a sharing and returns its coefficients and its shares.
func sharing(t *testing.T, s api.Setup, secret uint64, d int, tape []uint64) ([]uint64, []uint64) {
	t.Helper()
	f, _, e := share.Make(s, secret, d, tape)
	if e != api.OK {
		t.Fatal(s, secret, d, tape, e)
	}
	l, e := share.Shares(s, f)
	if e != api.OK || len(l) != s.N {
		t.Fatal(s, f, l, e)
	}
	return f, l
}

// held returns the points of these parties.
func held(group []int, shares []uint64) []api.Point {
	var l []api.Point
	for _, party := range group {
		l = append(l, api.Point{X: uint64(party), Y: shares[party-1]})
	}
	return l
}

// P4.7

// reveals checks that all groups of more than d parties, and no others, get the secret from the shares.
func reveals(t *testing.T, s api.Setup, d int, shares []uint64, secret uint64) {
	t.Helper()
	expect(t, "Fits", truth(share.Fits(s, d, shares)), 1)
	for _, group := range groups(s.N) {
		if len(group) > d {
			expect(t, "Secret", number(share.Secret(s.P, d, held(group, shares))), secret)
		} else {
			fails(t, "Secret", number(share.Secret(s.P, d, held(group, shares))), api.ErrFew)
		}
	}
}

func TestReconstruction(t *testing.T) {
	for _, s := range setups() {
		if s.N > 6 {
			continue
		}
		random := randomFor(s)
		for d := range s.N {
			a, b, k := random.Uint64()%s.P, random.Uint64()%s.P, random.Uint64()%s.P
			_, first := sharing(t, s, a, d, drawn(random, s.P, d))
			_, second := sharing(t, s, b, d, drawn(random, s.P, d))
			reveals(t, s, d, first, a)
			sum, _ := share.Sum(s, first, second)
			reveals(t, s, d, sum, (a+b)%s.P)
			more, _ := share.Sum(s, first, second, first)
			reveals(t, s, d, more, (2*a+b)%s.P)
			multiple, _ := share.Scale(s, first, k)
			reveals(t, s, d, multiple, a*k%s.P)
		}
	}
}

func TestReconstructionOfAll(t *testing.T) {
	for _, s := range fewSetups {
		for d := range s.N {
			for _, tape := range tuples(s.P, d) {
				for secret := range s.P {
					_, shares := sharing(t, s, secret, d, tape)
					reveals(t, s, d, shares, secret)
				}
			}
		}
	}
}

// Sums of sharings of different degrees are sharings of the higher one.
func TestSumOfDegrees(t *testing.T) {
	s := api.Setup{P: 17, N: 9, T: 2}
	random := randomFor(s)
	for d := range s.N {
		f, first := sharing(t, s, 5, d, drawn(random, s.P, d))
		_, second := sharing(t, s, 15, s.T, drawn(random, s.P, s.T))
		sum, e := share.Sum(s, first, second)
		if e != api.OK {
			t.Error(f, e)
		}
		reveals(t, s, max(d, s.T), sum, 3)
	}
}

// P4.8

// As many tapes as there are shares of d parties lead to different shares, so that every list of shares has one.
func TestSecrecy(t *testing.T) {
	for _, s := range fewSetups {
		for d := range s.N {
			for secret := range s.P {
				for _, group := range groups(s.N) {
					if len(group) == d {
						seenOnce(t, s, secret, d, group)
					}
				}
			}
		}
	}
}

func seenOnce(t *testing.T, s api.Setup, secret uint64, d int, group []int) {
	t.Helper()
	seen := map[string]bool{}
	for _, tape := range tuples(s.P, d) {
		_, shares := sharing(t, s, secret, d, tape)
		key := ""
		for _, point := range held(group, shares) {
			key += string(rune('0' + point.Y))
		}
		if seen[key] {
			t.Error(s, secret, d, group, tape)
		}
		seen[key] = true
	}
}

// P4.9

func TestMovingBack(t *testing.T) {
	for _, s := range setups() {
		random := randomFor(s)
		for _, corrupted := range smallGroups(s) {
			for _, n := range []int{0, 1, s.T, s.T + 1, s.N, 50} {
				f := drawn(random, s.P, n)
				moved, e := share.Move(s, f, corrupted, random.Uint64()%s.P)
				if e != api.OK || len(moved) > max(len(f), s.T+1) {
					t.Error(s, f, corrupted, moved, e)
				}
				expect(t, "Move back", got(share.Move(s, moved, corrupted, at(s.P, f, 0))), stripped(f)...)
			}
		}
	}
}

func TestMovedSharings(t *testing.T) {
	for _, s := range setups() {
		random := randomFor(s)
		for _, corrupted := range smallGroups(s) {
			for d := s.T; d < s.N; d++ {
				secret := random.Uint64() % s.P
				f, before := sharing(t, s, random.Uint64()%s.P, d, drawn(random, s.P, d))
				g, _ := share.Move(s, f, corrupted, secret)
				after, _ := share.Shares(s, g)
				expect(t, "Fits", truth(share.Fits(s, d, after)), 1)
				expect(t, "Secret", number(share.Secret(s.P, d, held(firstParties(s.N), after))), secret)
				if !slices.Equal(held(corrupted, before), held(corrupted, after)) {
					t.Error(s, f, corrupted, g)
				}
			}
		}
	}
}

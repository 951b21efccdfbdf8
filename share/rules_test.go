package share_test

import (
	"math"
	"slices"
	"testing"

	"junto/api"
	"junto/share"
)

// Rule 6: the errors of the setup come first.

func TestBadSetups(t *testing.T) {
	for _, s := range badSetups() {
		for _, n := range []int{0, 1, max(0, min(s.N, 300)), 202} {
			l := make([]uint64, n)
			fails(t, "Make", both(share.Make(s, 0, 0, l)), api.ErrArg)
			fails(t, "Shares", got(share.Shares(s, l)), api.ErrArg)
			fails(t, "Fits", truth(share.Fits(s, 0, l)), api.ErrArg)
			fails(t, "Sum", got(share.Sum(s, l)), api.ErrArg)
			fails(t, "Sum", got(share.Sum(s, l, l)), api.ErrArg)
			fails(t, "Scale", got(share.Scale(s, l, 0)), api.ErrArg)
			fails(t, "Move", got(share.Move(s, l, nil, 0)), api.ErrArg)
			fails(t, "Move", got(share.Move(s, l, []int{1}, 0)), api.ErrArg)
		}
		fails(t, "Sum of nothing", got(share.Sum(s)), api.ErrArg)
	}
}

// Rule 4: arguments are neither modified nor shared.

// results returns all lists that the functions return for these arguments.
func results(s api.Setup, l, tape []uint64, corrupted []int) [][]uint64 {
	made, rest, _ := share.Make(s, 2, 1, tape)
	alone, whole, _ := share.Make(s, 2, 0, tape)
	shares, _ := share.Shares(s, l)
	nothing, _ := share.Sum(s)
	one, _ := share.Sum(s, l)
	two, _ := share.Sum(s, l, l)
	same, _ := share.Scale(s, l, 1)
	double, _ := share.Scale(s, l, 2)
	here, _ := share.Move(s, l, corrupted, l[0])
	there, _ := share.Move(s, l, corrupted, 6)
	free, _ := share.Move(s, l, nil, l[0])
	return [][]uint64{made, rest, alone, whole, shares, nothing, one, two, same, double, here, there, free}
}

func TestMemory(t *testing.T) {
	s := api.Setup{P: 11, N: 5, T: 1}
	l, tape, corrupted := list(4, 3, 0, 0, 0), list(30, 9, 8), []int{2}
	for _, r := range results(s, l, tape, corrupted) {
		for i := range r {
			r[i] = 100
		}
		_ = append(r, 100)
	}
	points := []api.Point{{X: 2, Y: 2}, {X: 1, Y: 1}}
	share.Secret(11, 1, points)
	share.Fits(s, 1, l)
	share.Corrupted(s, corrupted)
	if !slices.Equal(l, list(4, 3, 0, 0, 0)) || !slices.Equal(tape, list(30, 9, 8)) || !slices.Equal(corrupted, []int{2}) {
		t.Error(l, tape, corrupted)
	}
	if !slices.Equal(points, []api.Point{{X: 2, Y: 2}, {X: 1, Y: 1}}) {
		t.Error(points)
	}
}

func TestPolynomialAndRestAreSeparate(t *testing.T) {
	s := api.Setup{P: 11, N: 5, T: 1}
	f, rest, _ := share.Make(s, 4, 2, list(3, 0, 9, 8))
	_ = append(f, 100, 100, 100, 100)
	if !slices.Equal(rest, list(9, 8)) {
		t.Error(rest)
	}
	_ = append(rest, 100, 100)
	clear(rest)
	if !slices.Equal(f, list(4, 3)) {
		t.Error(f)
	}
}

// Rule 2: an error code is the only result that is not zero.
func TestZeroValuesWithErrors(t *testing.T) {
	s := api.Setup{P: 11, N: 5, T: 1}
	l := list(1, 2, 3, 4, 11)
	for _, a := range []answer{
		both(share.Make(s, 11, 1, list(1, 2))), both(share.Make(s, 1, 5, list(1, 2))), got(share.Shares(s, l)),
		number(share.Secret(11, 0, []api.Point{{X: 1, Y: 1}, {X: 2, Y: 2}})), number(share.Secret(11, 1, []api.Point{{X: 1, Y: 1}})),
		truth(share.Fits(s, 4, l)), truth(share.Fits(s, -1, make([]uint64, 5))), got(share.Sum(s, l)), got(share.Sum(s, l[:4])),
		got(share.Scale(s, l, 1)), got(share.Scale(s, l[:4], 1)), got(share.Move(s, l, nil, 1)), got(share.Move(s, l[:4], nil, 11)),
	} {
		if a.e == api.OK || len(a.l) != 0 {
			t.Error(a)
		}
	}
}

// The document's P1 and P2: all calls end without a panic, and twice with the same results.

func TestAnyArguments(t *testing.T) {
	integers := []int{math.MinInt, -1, 0, 1, 4, 5, 200, 201, 1 << 32, math.MaxInt}
	numbers := list(0, 1, 2, 10, 11, 65537, 1<<32, 1<<64-1)
	lists := [][]uint64{nil, {0}, {1, 2, 3, 4, 5}, {0, 0, 0, 0, 11}, {1 << 63}, numbers, make([]uint64, 201), make([]uint64, 1000)}
	groups := [][]int{nil, {}, {0}, {1}, {5}, {6}, {1, 1}, integers, make([]int, 1000)}
	same := func(name string, a, b answer) {
		if a.e != b.e || !slices.Equal(a.l, b.l) {
			t.Error(name, a, b)
		}
	}
	for _, s := range append(badSetups(), api.Setup{P: 3, N: 1}, api.Setup{P: 11, N: 5, T: 1}, api.Setup{P: 65537, N: 13, T: 3}) {
		for _, l := range lists {
			for _, x := range numbers {
				same("Scale", got(share.Scale(s, l, x)), got(share.Scale(s, l, x)))
				for _, g := range groups {
					same("Move", got(share.Move(s, l, g, x)), got(share.Move(s, l, g, x)))
				}
				for _, d := range integers {
					same("Make", both(share.Make(s, x, d, l)), both(share.Make(s, x, d, l)))
				}
			}
			for _, d := range integers {
				same("Fits", truth(share.Fits(s, d, l)), truth(share.Fits(s, d, l)))
				var points []api.Point
				for i, y := range l {
					points = append(points, api.Point{X: uint64(i), Y: y})
				}
				same("Secret", number(share.Secret(s.P, d, points)), number(share.Secret(s.P, d, points)))
			}
			for _, k := range lists {
				same("Sum", got(share.Sum(s, l, k)), got(share.Sum(s, l, k)))
			}
			same("Shares", got(share.Shares(s, l)), got(share.Shares(s, l)))
		}
		for _, g := range groups {
			same("Corrupted", answer{e: share.Corrupted(s, g)}, answer{e: share.Corrupted(s, g)})
		}
	}
}

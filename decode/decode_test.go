package decode_test

import (
	"math"
	"math/rand"
	"slices"
	"testing"

	"junto/api"
	"junto/decode"
)

// P5.1

func TestCheck(t *testing.T) {
	for _, p := range primes {
		random := randomFor(p)
		for n := 0; n <= 64 && uint64(n) <= p; n++ {
			for _, d := range []int{0, 1, 2, 30, 62, 63} {
				l := values(p, list(1), places(random, p, n, true)) // equal values are no duplicates
				if e := decode.Check(p, d, l); e != api.OK {
					t.Error(p, d, n, e)
				}
				l = values(p, list(0, 1, 2), places(random, p, n, false))
				if e := decode.Check(p, d, l); e != api.OK {
					t.Error(p, d, n, e)
				}
			}
		}
		if e := decode.Check(p, 1, []api.Point{{X: p - 1, Y: p - 1}, {X: 0, Y: p - 1}}); e != api.OK {
			t.Error(p, e)
		}
	}
}

func TestCheckTwice(t *testing.T) {
	for _, p := range []uint64{7, 67, 65537} {
		random := randomFor(p)
		for _, n := range []int{2, 3, 6, 64} {
			if uint64(n) > p {
				continue
			}
			for j := range n {
				for i := range j {
					l := values(p, list(1, 1), places(random, p, n, true))
					l[j].X = l[i].X
					if e := decode.Check(p, 1, l); e != api.ErrTwice {
						t.Error(p, n, i, j, e)
					}
					l[j].Y = l[i].Y
					if e := decode.Check(p, 1, l); e != api.ErrTwice {
						t.Error(p, n, i, j, e)
					}
				}
			}
		}
	}
}

func TestMost(t *testing.T) {
	for points := -4; points <= 70; points++ {
		for d := -4; d <= 70; d++ {
			if e := decode.Most(points, d); e != most(points, d) {
				t.Error(points, d, e)
			}
		}
	}
	for _, x := range [][3]int{
		{math.MaxInt, 0, math.MaxInt / 2}, {math.MaxInt, 1, math.MaxInt/2 - 1}, {math.MaxInt - 1, 0, math.MaxInt/2 - 1},
		{math.MaxInt, math.MaxInt, -1}, {math.MaxInt, math.MaxInt - 1, 0}, {math.MaxInt, math.MaxInt - 3, 1},
		{5, math.MaxInt, -1}, {math.MaxInt, -1, -1}, {math.MaxInt, math.MinInt, -1},
		{math.MinInt, 0, -1}, {math.MinInt, math.MinInt, -1}, {math.MinInt, math.MaxInt, -1},
	} {
		if e := decode.Most(x[0], x[1]); e != x[2] {
			t.Error(x, e)
		}
	}
}

// P5.2

// eachList calls f with random polynomials of degree at most d and their points, for many degrees and numbers of
// points.
func eachList(p uint64, f func(random *rand.Rand, d int, g []uint64, l []api.Point)) {
	random := randomFor(p)
	for _, n := range []int{1, 2, 3, 4, 5, 7, 10, 13, 17, 40, 63, 64} {
		if uint64(n) > p {
			continue
		}
		for _, d := range []int{0, 1, 2, 3, 6, 12, 20, n/3 + 1, n - 2, n - 1} {
			if d < 0 || d >= n {
				continue
			}
			for _, g := range [][]uint64{nil, list(p - 1), drawn(random, p, d/2), append(drawn(random, p, d), p-1)} {
				f(random, d, g, values(p, g, places(random, p, n, random.Intn(2) == 0)))
			}
		}
	}
}

func TestDecode(t *testing.T) {
	for _, p := range primes {
		eachList(p, func(random *rand.Rand, d int, g []uint64, l []api.Point) {
			most := most(len(l), d)
			for _, wrong := range []int{0, 1, most / 2, most} {
				for _, count := range []int{0, 1, wrong / 2, wrong} {
					if count <= wrong && wrong <= most {
						indices := choice(random, len(l), count)
						expect(t, "Decode", got(decode.Decode(p, d, wrong, changed(random, p, l, indices...))), g, indices...)
					}
				}
			}
		})
	}
}

// Wrong points may be the first ones, the last ones, or all in a row.
func TestDecodeOfRuns(t *testing.T) {
	const p = 65537
	random := randomFor(p)
	for _, x := range [][2]int{{5, 1}, {9, 2}, {13, 3}, {13, 6}, {64, 1}, {64, 21}, {64, 51}} {
		n, d := x[0], x[1]
		g := append(drawn(random, p, d), 1)
		l := values(p, g, places(random, p, n, true))
		most := most(n, d)
		for count := 1; count <= most; count++ {
			for _, first := range []int{0, 1, d, n - count} {
				var indices []int
				for i := range count {
					indices = append(indices, min(first, n-count)+i)
				}
				bad := changed(random, p, l, indices...)
				expect(t, "Decode", got(decode.Decode(p, d, most, bad)), g, indices...)
				expect(t, "Decode", got(decode.Decode(p, d, count, bad)), g, indices...)
			}
		}
	}
}

// A list with one wrong point more than those that are counted has no polynomial if there are points enough to find
// another one: such a polynomial would agree with this one at more points than its degree.
func TestDecodeOfTooManyWrongPoints(t *testing.T) {
	for _, p := range primes {
		eachList(p, func(random *rand.Rand, d int, g []uint64, l []api.Point) {
			for wrong := 0; d+2+2*wrong <= len(l); wrong += 1 + len(l)/10 {
				bad := changed(random, p, l, choice(random, len(l), wrong+1)...)
				fails(t, "Decode", got(decode.Decode(p, d, wrong, bad)), api.ErrWrong)
			}
		})
	}
}

// The degree may be lower than d, but not higher.
func TestDecodeDegree(t *testing.T) {
	for _, p := range primes {
		random := randomFor(p)
		for n := 2; n <= 64 && uint64(n) <= p; n += 1 + n/6 {
			g := append(drawn(random, p, n/3), 1)
			l := values(p, g, places(random, p, n, true))
			for d := range n {
				for wrong := 0; wrong <= most(n, d); wrong += 5 {
					// If there is a polynomial of a lower degree, it agrees with g at no more points than the degree of g.
					if d >= n/3 {
						expect(t, "Decode", got(decode.Decode(p, d, wrong, l)), g)
					} else if n-wrong > n/3 {
						fails(t, "Decode", got(decode.Decode(p, d, wrong, l)), api.ErrWrong)
					}
				}
			}
		}
	}
}

func TestDecodeErrors(t *testing.T) {
	for _, p := range primes {
		random := randomFor(p)
		for n := 0; n <= 64 && uint64(n) <= p; n += 1 + n/6 {
			l := values(p, drawn(random, p, 2), places(random, p, n, true))
			for _, d := range []int{0, 1, 2, 5, 30, 63} {
				for _, wrong := range []int{math.MinInt, -1 << 62, -2, -1} {
					fails(t, "Decode with a negative number", got(decode.Decode(p, d, wrong, l)), api.ErrArg)
				}
				most := most(n, d)
				for _, wrong := range []int{most + 1, most + 2, most + 32, 1<<31 - 1, 1 << 32, 1<<62 - 1, 1 << 62, 1<<62 + 1, math.MaxInt - 1, math.MaxInt} {
					fails(t, "Decode of few points", got(decode.Decode(p, d, wrong, l)), api.ErrFew)
				}
			}
		}
	}
}

// P5.3

func TestBest(t *testing.T) {
	for _, p := range primes {
		eachList(p, func(random *rand.Rand, d int, g []uint64, l []api.Point) {
			most := most(len(l), d)
			for count := 0; count <= most; count += 1 + most/3 {
				indices := choice(random, len(l), count)
				expect(t, "Best", got(decode.Best(p, d, changed(random, p, l, indices...))), g, indices...)
			}
			bad := changed(random, p, l, choice(random, len(l), min(most+1, len(l)))...)
			if a, b := got(decode.Best(p, d, bad)), got(decode.Decode(p, d, most, bad)); !a.equals(b) {
				t.Error(p, d, bad, a, b)
			}
			if d+2+2*most == len(l) {
				fails(t, "Best", got(decode.Best(p, d, bad)), api.ErrWrong)
			}
		})
	}
}

func TestBestOfFewPoints(t *testing.T) {
	for _, p := range primes {
		for n := 0; n <= 63 && uint64(n) <= p; n++ {
			l := values(p, list(1), firstPlaces(n))
			for d := n; d <= 63; d++ {
				fails(t, "Best of few points", got(decode.Best(p, d, l)), api.ErrFew)
			}
			if n > 0 {
				expect(t, "Best of just enough points", got(decode.Best(p, n-1, l)), list(1))
			}
		}
	}
}

// P5.4

func TestGaps(t *testing.T) {
	for _, p := range primes {
		eachList(p, func(random *rand.Rand, d int, g []uint64, l []api.Point) {
			for _, missing := range []int{0, 1, len(l) / 3, len(l) - d - 1} {
				if missing > len(l)-d-1 {
					continue
				}
				gaps := choice(random, len(l), missing)
				there := slices.Repeat([]bool{true}, len(l))
				for _, i := range gaps {
					there[i] = false
				}
				all := random.Perm(len(l))
				all = slices.DeleteFunc(all, func(i int) bool { return !there[i] })
				indices := all[:most(len(all), d)]
				slices.Sort(indices)
				bad := changed(random, p, l, slices.Concat(indices, gaps)...)
				expect(t, "Gaps", got(decode.Gaps(p, d, bad, there)), g, indices...)
			}
		})
	}
}

// All choices of present points are tried, with one wrong point.
func TestGapsOfAllChoices(t *testing.T) {
	const p, d, n = 11, 1, 7
	g := list(4, 3)
	random := randomFor(p)
	l := values(p, g, list(1, 2, 3, 4, 5, 6, 7))
	for bits := range 1 << n {
		var there []bool
		var present []int
		for i := range n {
			there = append(there, bits>>i&1 == 1)
			if there[i] {
				present = append(present, i)
			}
		}
		for wrong := range n {
			a := got(decode.Gaps(p, d, changed(random, p, l, wrong), there))
			switch {
			case len(present) <= d:
				fails(t, "Gaps of few points", a, api.ErrFew)
			case !there[wrong]:
				expect(t, "Gaps with a wrong point that is not there", a, g)
			case len(present) >= d+3:
				expect(t, "Gaps with a wrong point", a, g, wrong)
			case len(present) == d+2:
				fails(t, "Gaps with a wrong point too much", a, api.ErrWrong)
			}
		}
	}
}

func TestGapsErrors(t *testing.T) {
	for _, p := range primes {
		l := values(p, list(1, 1), firstPlaces(3))
		for _, n := range []int{0, 1, 2, 4, 64, 65, 1000} {
			fails(t, "Gaps with a wrong length", got(decode.Gaps(p, 0, l, make([]bool, n))), api.ErrArg)
			fails(t, "Gaps with a wrong length", got(decode.Gaps(p, 0, l, slices.Repeat([]bool{true}, n))), api.ErrArg)
			if n > 0 {
				fails(t, "Gaps of no points", got(decode.Gaps(p, 0, nil, make([]bool, n))), api.ErrArg)
			}
		}
		fails(t, "Gaps of nothing", got(decode.Gaps(p, 0, nil, nil)), api.ErrFew)
		fails(t, "Gaps of no points that are there", got(decode.Gaps(p, 0, l, make([]bool, 3))), api.ErrFew)
		fails(t, "Gaps of too few points", got(decode.Gaps(p, 2, l, []bool{true, false, true})), api.ErrFew)
		fails(t, "Gaps of wrong points", got(decode.Gaps(p, 0, l, []bool{true, false, true})), api.ErrWrong)
		expect(t, "Gaps of one point", got(decode.Gaps(p, 0, l, []bool{false, true, false})), list(2))
	}
}

// The examples of the chapter and of the document.

func TestExamples(t *testing.T) {
	l := []api.Point{{X: 1, Y: 7}, {X: 2, Y: 10}, {X: 3, Y: 2}, {X: 4, Y: 0}, {X: 5, Y: 8}}
	expect(t, "Best", got(decode.Best(11, 1, l)), list(4, 3), 3)
	expect(t, "Decode", got(decode.Decode(11, 1, 1, l)), list(4, 3), 3)
	l[2].Y, l[3].Y = 5, 5
	expect(t, "Best", got(decode.Best(11, 1, l)), list(4, 3), 2)
}

package decode_test

import (
	"math/rand"
	"slices"
	"testing"

	"junto/api"
	"junto/decode"
)

// P5.5

// matches returns all polynomials of degree at most d that pass through all points except at most wrong of them.
func matches(p uint64, wrong int, l []api.Point, polynomials [][]uint64) [][]uint64 {
	return slices.DeleteFunc(slices.Clone(polynomials), func(f []uint64) bool { return len(off(p, f, l)) > wrong })
}

// decodesAll compares Decode with a search of all polynomials, for all values at these places.
func decodesAll(t *testing.T, p uint64, xs []uint64) {
	for d := range len(xs) {
		polynomials := tuples(p, d+1)
		for wrong := range most(len(xs), d) + 1 {
			for _, ys := range tuples(p, len(xs)) {
				var l []api.Point
				for i, x := range xs {
					l = append(l, api.Point{X: x, Y: ys[i]})
				}
				a := got(decode.Decode(p, d, wrong, l))
				found := matches(p, wrong, l, polynomials)
				switch len(found) {
				case 0:
					fails(t, "Decode", a, api.ErrWrong)
				case 1:
					expect(t, "Decode", a, found[0], off(p, found[0], l)...)
				default:
					t.Error("there are several polynomials", p, d, wrong, l, found)
				}
			}
		}
	}
}

func TestUniqueness(t *testing.T) {
	decodesAll(t, 3, list(1))
	decodesAll(t, 3, list(2, 1))
	decodesAll(t, 3, list(2, 0, 1))
	decodesAll(t, 5, list(3))
	decodesAll(t, 5, list(1, 2, 3))
	decodesAll(t, 5, list(4, 0, 3, 1))
	decodesAll(t, 7, list(6, 0, 2))
}

// With five points, one or two of them can be wrong; these are the lists with degrees for which a search is short.
func TestUniquenessOfFivePoints(t *testing.T) {
	const p = 5
	xs := list(3, 0, 4, 2, 1)
	for d := range 3 {
		polynomials := tuples(p, d+1)
		for _, ys := range tuples(p, len(xs)) {
			var l []api.Point
			for i, x := range xs {
				l = append(l, api.Point{X: x, Y: ys[i]})
			}
			a := got(decode.Best(p, d, l))
			found := matches(p, most(5, d), l, polynomials)
			if len(found) == 0 {
				fails(t, "Best", a, api.ErrWrong)
			} else {
				expect(t, "Best", a, found[0], off(p, found[0], l)...)
			}
			if len(found) > 1 {
				t.Error("there are several polynomials", d, l, found)
			}
		}
	}
}

// The order of the points does not matter.
func TestOrderOfPoints(t *testing.T) {
	for _, p := range primes {
		eachList(p, func(random *rand.Rand, d int, g []uint64, l []api.Point) {
			bad := changed(random, p, l, choice(random, len(l), min(len(l), most(len(l), d)+random.Intn(2)))...)
			a := got(decode.Best(p, d, bad))
			order := random.Perm(len(l))
			shuffled := make([]api.Point, len(l))
			for i, place := range order {
				shuffled[place] = bad[i]
			}
			b := got(decode.Best(p, d, shuffled))
			var moved []int
			for _, i := range a.wrong {
				moved = append(moved, order[i])
			}
			slices.Sort(moved)
			if !b.equals(answer{a.f, moved, a.e}) {
				t.Error(p, d, bad, shuffled, a, b)
			}
		})
	}
}

// P5.6

// corrects changes the values of f at every choice of at most e of the d + 1 + 2e places.
func corrects(t *testing.T, random *rand.Rand, p uint64, d, e int) {
	n := d + 1 + 2*e
	f := drawn(random, p, d+1)
	l := values(p, f, places(random, p, n, true))
	for bits := range 1 << n {
		var indices []int
		for i := range n {
			if bits>>i&1 == 1 {
				indices = append(indices, i)
			}
		}
		if len(indices) <= e {
			bad := changed(random, p, l, indices...)
			expect(t, "Best", got(decode.Best(p, d, bad)), f, indices...)
			expect(t, "Decode", got(decode.Decode(p, d, e, bad)), f, indices...)
		}
	}
}

func TestCorrection(t *testing.T) {
	for _, p := range []uint64{13, 211, 65537} {
		random := randomFor(p)
		for d := range 7 {
			for e := 0; d+1+2*e <= 13; e++ {
				corrects(t, random, p, d, e)
			}
		}
	}
}

// Wrong values that lie on one other polynomial are corrected, too.
func TestCorrectionOfLies(t *testing.T) {
	for _, p := range primes {
		eachList(p, func(random *rand.Rand, d int, g []uint64, l []api.Point) {
			lie := drawn(random, p, d+1)
			bad := slices.Clone(l)
			for _, i := range choice(random, len(l), most(len(l), d)) {
				bad[i].Y = at(p, lie, bad[i].X)
			}
			expect(t, "Best", got(decode.Best(p, d, bad)), g, off(p, g, bad)...)
		})
	}
}

// P5.7

// detects checks a list that is not the corrected one: there is no polynomial, or it passes through enough points.
func detects(t *testing.T, p uint64, d int, l []api.Point) {
	t.Helper()
	a := got(decode.Best(p, d, l))
	if a.e == api.ErrWrong {
		fails(t, "Best", a, api.ErrWrong)
		return
	}
	if len(a.f) > d+1 || len(l)-len(a.wrong) < d+1+most(len(l), d) {
		t.Error("too few points", p, d, l, a)
	}
	expect(t, "Best", a, a.f, off(p, a.f, l)...)
}

func TestDetection(t *testing.T) {
	for _, p := range primes {
		eachList(p, func(random *rand.Rand, d int, g []uint64, l []api.Point) {
			for count := most(len(l), d) + 1; count <= len(l); count += 1 + len(l)/10 {
				detects(t, p, d, changed(random, p, l, choice(random, len(l), count)...))
			}
			detects(t, p, d, values(p, drawn(random, p, len(l)), places(random, p, len(l), true)))
		})
	}
}

// If enough values are moved to another polynomial, that one is found.
func TestDetectionOfLies(t *testing.T) {
	for _, p := range []uint64{13, 211, 65537} {
		random := randomFor(p)
		for d := range 7 {
			for e := 0; d+1+2*e <= 13; e++ {
				n := d + 1 + 2*e
				lie := append(drawn(random, p, d), 1)
				l := values(p, drawn(random, p, d), places(random, p, n, true))
				for _, i := range choice(random, n, d+1+e) {
					l[i].Y = at(p, lie, l[i].X)
				}
				expect(t, "Best", got(decode.Best(p, d, l)), lie, off(p, lie, l)...)
			}
		}
	}
}

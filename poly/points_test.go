package poly_test

import (
	"math/rand"
	"slices"
	"testing"

	"junto/api"
	"junto/poly"
)

// different returns n different field elements in a random order.
func different(random *rand.Rand, p uint64, n int) []uint64 {
	var l []uint64
	for _, x := range random.Perm(int(p))[:n] {
		l = append(l, uint64(x))
	}
	return l
}

// counts are numbers of points, of which there are no more than p.
func counts(p uint64) []int {
	l := []int{0, 1, 2, 3}
	for _, n := range []int{4, 7, 13, 100, 200, 201} {
		if uint64(n) <= p {
			l = append(l, n)
		}
	}
	return l
}

// points returns points with these X and the values of f.
func points(p uint64, xs, f []uint64) []api.Point {
	var l []api.Point
	for _, x := range xs {
		l = append(l, api.Point{X: x, Y: at(p, f, x)})
	}
	return l
}

// P2.5

func TestThrough(t *testing.T) {
	random := rand.New(rand.NewSource(4))
	for _, p := range primes {
		for _, n := range counts(p) {
			var l []api.Point
			for _, x := range different(random, p, n) {
				l = append(l, api.Point{X: x, Y: random.Uint64() % p})
			}
			f, e := poly.Through(p, l)
			if e != api.OK || len(f) > n || !slices.Equal(f, stripped(f)) {
				t.Error(p, l, f, e)
			}
			for _, point := range l {
				if y := at(p, f, point.X); y != point.Y {
					t.Error(p, point, y)
				}
			}
		}
		expect(t, "Through the origin", got(poly.Through(p, []api.Point{{X: 0, Y: 0}})))
		expect(t, "Through a line", got(poly.Through(p, []api.Point{{X: 0, Y: 1}, {X: 2, Y: 1}})), 1)
	}
}

func TestThroughAll(t *testing.T) {
	for _, p := range []uint64{3, 5} {
		var xs []uint64
		for x := range p {
			xs = append(xs, x)
		}
		for _, ys := range tuples(p, int(p)) {
			var l []api.Point
			for i, x := range xs {
				l = append(l, api.Point{X: x, Y: ys[i]})
			}
			f, e := poly.Through(p, l)
			if len(f) > len(xs) || e != api.OK || !slices.Equal(points(p, xs, f), l) {
				t.Error(p, l, f, e)
			}
		}
	}
}

func TestThroughErrors(t *testing.T) {
	for _, p := range primes {
		long := make([]api.Point, 202)
		fails(t, "202 points", got(poly.Through(p, long)), api.ErrLimit)
		fails(t, "201 equal points", got(poly.Through(p, long[:201])), api.ErrTwice)
		fails(t, "equal X", got(poly.Through(p, []api.Point{{X: 1, Y: 2}, {X: 0, Y: 2}, {X: 1, Y: 1}})), api.ErrTwice)
		for _, x := range notBelow(p) {
			for _, bad := range []api.Point{{X: x, Y: 0}, {X: 0, Y: x}, {X: x, Y: x}} {
				fails(t, "no element", got(poly.Through(p, []api.Point{bad})), api.ErrArg)
				fails(t, "no element, later", got(poly.Through(p, []api.Point{{X: 1, Y: 1}, {X: 1, Y: 1}, bad})), api.ErrArg)
				fails(t, "no element of 202", got(poly.Through(p, append(long[:201:201], bad))), api.ErrLimit)
			}
		}
	}
}

// P2.6

func TestWeights(t *testing.T) {
	random := rand.New(rand.NewSource(5))
	for _, p := range primes {
		for _, n := range counts(p) {
			xs := different(random, p, n)
			for _, goal := range append(list(0, 1, p-1, random.Uint64()%p), xs[:min(n, 2)]...) {
				w, e := poly.Weights(p, xs, goal)
				if len(w) != n || e != api.OK {
					t.Fatal(p, xs, goal, w, e)
				}
				// It is enough to look at powers of x and at one sum of all of them.
				for _, k := range []int{0, 1, 2, n / 2, n - 2, n - 1} {
					if k >= 0 && k < n {
						weigh(t, p, xs, w, goal, power(k))
					}
				}
				weigh(t, p, xs, w, goal, drawn(random, p, n))
			}
		}
	}
}

// weigh checks that the sum of the weighted values at xs is the value at goal.
func weigh(t *testing.T, p uint64, xs, w []uint64, goal uint64, f []uint64) {
	t.Helper()
	sum := uint64(0)
	for i, x := range xs {
		sum = (sum + w[i]*at(p, f, x)) % p
	}
	if want := at(p, f, goal); sum != want {
		t.Error(p, xs, w, goal, f, sum, want)
	}
}

func TestWeightsAtAnElement(t *testing.T) {
	expect(t, "Weights", got(poly.Weights(11, list(3, 5, 9), 3)), 1, 0, 0)
	expect(t, "Weights", got(poly.Weights(11, list(3, 5, 9), 9)), 0, 0, 1)
	expect(t, "Weights of one", got(poly.Weights(11, list(3), 8)), 1)
	expect(t, "Weights of none", got(poly.Weights(11, nil, 8)))
}

func TestWeightsErrors(t *testing.T) {
	for _, p := range primes {
		long := make([]uint64, 202)
		fails(t, "202 elements", got(poly.Weights(p, long, 0)), api.ErrLimit)
		fails(t, "202 elements at p", got(poly.Weights(p, long, p)), api.ErrLimit)
		fails(t, "201 equal elements", got(poly.Weights(p, long[:201], 0)), api.ErrTwice)
		fails(t, "equal elements", got(poly.Weights(p, list(2, 0, 2), 0)), api.ErrTwice)
		fails(t, "equal elements at them", got(poly.Weights(p, list(2, 0, 2), 2)), api.ErrTwice)
		for _, x := range notBelow(p) {
			fails(t, "no element", got(poly.Weights(p, list(1, 1, x), 0)), api.ErrArg)
			fails(t, "at no element", got(poly.Weights(p, list(1, 1), x)), api.ErrArg)
			fails(t, "none at no element", got(poly.Weights(p, nil, x)), api.ErrArg)
			fails(t, "no element of 202", got(poly.Weights(p, append(long[:201:201], x), 0)), api.ErrLimit)
		}
	}
}

// P2.7

func TestAway(t *testing.T) {
	random := rand.New(rand.NewSource(6))
	for _, p := range primes {
		for _, n := range counts(p) {
			xs := slices.DeleteFunc(different(random, p, n), func(x uint64) bool { return x == 0 })
			xs = xs[:min(len(xs), 200)]
			f, e := poly.Away(p, xs...)
			if len(f) != len(xs)+1 || e != api.OK || at(p, f, 0) != 1 {
				t.Error(p, xs, f, e)
			}
			for _, x := range xs {
				if at(p, f, x) != 0 {
					t.Error(p, xs, f, x)
				}
			}
		}
		expect(t, "Away of nothing", got(poly.Away(p)), 1)
		expect(t, "Away of 1", got(poly.Away(p, 1)), 1, p-1)
	}
}

func TestAwayErrors(t *testing.T) {
	for _, p := range primes {
		ones := slices.Repeat(list(1), 201)
		fails(t, "201 elements", got(poly.Away(p, ones...)), api.ErrLimit)
		fails(t, "200 equal elements", got(poly.Away(p, ones[:200]...)), api.ErrTwice)
		fails(t, "0", got(poly.Away(p, 0)), api.ErrZero)
		fails(t, "equal elements", got(poly.Away(p, 2, 1, 2)), api.ErrTwice)
		fails(t, "equal elements and 0", got(poly.Away(p, 2, 1, 2, 0)), api.ErrZero)
		for _, x := range notBelow(p) {
			fails(t, "no element", got(poly.Away(p, 0, 1, 1, x)), api.ErrArg)
			fails(t, "no element of 201", got(poly.Away(p, append(ones[:200:200], x)...)), api.ErrLimit)
		}
	}
}

// P2.8

func TestRoots(t *testing.T) {
	for _, p := range primes[:7] {
		for _, f := range polynomials(p, 4) {
			if len(stripped(f)) == 0 {
				continue
			}
			var want []uint64
			for x := range p {
				if at(p, f, x) == 0 {
					want = append(want, x)
				}
			}
			expect(t, "Roots", got(poly.Roots(p, f)), want...)
		}
	}
}

// withRoots returns the product of x - r for all elements r of l.
func withRoots(p uint64, l ...uint64) []uint64 {
	f := list(1)
	for _, r := range l {
		f = times(p, f, list((p-r)%p, 1))
	}
	return f
}

func TestRootsOfProducts(t *testing.T) {
	random := rand.New(rand.NewSource(7))
	for _, p := range primes {
		for _, n := range counts(p) {
			l := different(random, p, min(n, 200))
			f := withRoots(p, l...)
			slices.Sort(l)
			expect(t, "Roots of a product", got(poly.Roots(p, f)), l...)
			if n > 0 && n < 200 {
				double := times(p, f, withRoots(p, l[0]))
				expect(t, "Roots with a double root", got(poly.Roots(p, padded(double, 1))), l...)
			}
		}
		expect(t, "Roots of the first and the last", got(poly.Roots(p, withRoots(p, p-1, 0))), 0, p-1)
		expect(t, "Roots of a constant", got(poly.Roots(p, list(p-1, 0, 0))))
		expect(t, "Roots of a power", got(poly.Roots(p, power(200))), 0)
	}
}

func TestRootsOfZero(t *testing.T) {
	for _, p := range primes {
		for _, n := range []int{0, 1, 2, 201} {
			fails(t, "Roots of 0", got(poly.Roots(p, make([]uint64, n))), api.ErrZero)
		}
		fails(t, "Roots of a long list", got(poly.Roots(p, make([]uint64, 202))), api.ErrLimit)
	}
}

// P2.10

func TestUniqueness(t *testing.T) {
	random := rand.New(rand.NewSource(8))
	for _, p := range []uint64{3, 5} {
		for n := range 4 {
			xs := different(random, p, min(n, int(p)))
			found := map[string]bool{}
			all := tuples(p, len(xs))
			for _, f := range all {
				values := ""
				for _, x := range xs {
					y, _ := poly.Eval(p, f, x)
					values += string(rune('0' + y))
				}
				found[values] = true
				if roots, _ := poly.Roots(p, f); len(roots) > max(len(stripped(f))-1, 0) {
					t.Error(p, f, roots)
				}
			}
			if len(found) != len(all) {
				t.Error(p, n, len(found), len(all))
			}
		}
	}
}

// P2.11

func TestInterpolation(t *testing.T) {
	random := rand.New(rand.NewSource(9))
	for _, p := range primes {
		for _, n := range counts(p) {
			xs := different(random, p, n)
			for _, length := range []int{0, 1, n / 2, n - 1, n} {
				if length >= 0 && length <= n {
					f := drawn(random, p, length)
					expect(t, "Through the values", got(poly.Through(p, points(p, xs, f))), stripped(f)...)
				}
			}
		}
	}
}

// The examples of the chapter.

func TestExamples(t *testing.T) {
	expect(t, "Through", got(poly.Through(7, []api.Point{{X: 1, Y: 3}, {X: 2, Y: 5}})), 1, 2)
	expect(t, "Away", got(poly.Away(7, 1, 2)), 1, 2, 4)
	expect(t, "Weights", got(poly.Weights(7, list(1, 2, 3), 0)), 3, 4, 1)
}

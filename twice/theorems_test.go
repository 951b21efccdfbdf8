package twice_test

import (
	"slices"
	"testing"

	"junto/api"
	"junto/poly"
	"junto/share"
	"junto/twice"
)

// wholeOf returns the polynomial that Whole returns.
func wholeOf(t *testing.T, s api.Setup, l [][]uint64) []uint64 {
	t.Helper()
	w, e := twice.Whole(s, l)
	if e != api.OK {
		t.Fatal(s, l, e)
	}
	return w
}

// masked returns X Y + Whole.
func masked(t *testing.T, s api.Setup, x, y []uint64, l [][]uint64) []uint64 {
	t.Helper()
	return plus(s.P, product(s.P, x, y), 1, wholeOf(t, s, l))
}

// P7.7

// sharesOneSecret checks the values at 0 and the degree of a mask.
func sharesOneSecret(t *testing.T, s api.Setup, l [][]uint64, secret uint64) {
	t.Helper()
	expect(t, "Low at 0", number(twice.Low(s, l, 0)), list(secret))
	expect(t, "High at 0", number(twice.High(s, l, 0)), list(secret))
	w := wholeOf(t, s, l)
	if len(w)-1 > 2*s.T {
		t.Error(s, l, w)
	}
	var low, high []uint64
	for x := 1; x <= s.N; x++ {
		a, _ := twice.Low(s, l, uint64(x))
		b, _ := twice.High(s, l, uint64(x))
		low, high = append(low, a), append(high, b)
	}
	if fits, e := share.Fits(s, s.T, low); !fits || e != api.OK {
		t.Error("low values", s, l, low, e)
	}
	if fits, e := share.Fits(s, 2*s.T, high); !fits || e != api.OK {
		t.Error("high values", s, l, high, e)
	}
	if shares, e := share.Shares(s, w); !slices.Equal(shares, high) || e != api.OK {
		t.Error(s, l, w, shares, high, e)
	}
}

func TestOneSecret(t *testing.T) {
	for _, s := range setups() {
		random := randomFor(s)
		for range 5 {
			secret := random.Uint64() % s.P
			l, _, e := twice.Make(s, secret, drawn(random, s.P, sizes[s.T]))
			if e != api.OK {
				t.Fatal(s, e)
			}
			sharesOneSecret(t, s, l, secret)
			l = randomMask(random, s)
			sharesOneSecret(t, s, l, l[0][0])
		}
	}
}

func TestOneSecretOfAll(t *testing.T) {
	s := api.Setup{P: 7, N: 5, T: 1}
	for secret := range s.P {
		for _, tape := range tuples(s.P, sizes[s.T]) {
			l, rest, e := twice.Make(s, secret, tape)
			if e != api.OK || len(rest) > 0 {
				t.Fatal(secret, tape, rest, e)
			}
			sharesOneSecret(t, s, l, secret)
		}
	}
}

// P7.8

func TestMaskedProduct(t *testing.T) {
	for _, s := range setups() {
		random := randomFor(s)
		for range 10 {
			l := randomMask(random, s)
			x, y := drawn(random, s.P, s.T+1), drawn(random, s.P, s.T+1)
			opened := masked(t, s, x, y, l)
			if len(opened)-1 > 2*s.T {
				t.Error(s, x, y, l, opened)
			}
			constant := list(value(s.P, opened, 0))
			f, e := poly.Sub(s.P, constant, l[0])
			if e != api.OK || len(f)-1 > s.T || value(s.P, f, 0) != x[0]*y[0]%s.P {
				t.Error(s, x, y, l, f, e)
			}
			multiplies(t, s, x, y, l, constant[0])
		}
	}
}

// multiplies checks that every party can compute its part of the opened polynomial and its share of the product from
// its shares of x and y and the values of the mask at its point.
func multiplies(t *testing.T, s api.Setup, x, y []uint64, l [][]uint64, constant uint64) {
	t.Helper()
	var opened, shares []uint64
	for party := uint64(1); party <= uint64(s.N); party++ {
		low, _ := twice.Low(s, l, party)
		high, e := twice.Join(s, valuesAt(s.P, l, party), party)
		if e != api.OK {
			t.Fatal(s, l, party, e)
		}
		opened = append(opened, (value(s.P, x, party)*value(s.P, y, party)+high)%s.P)
		shares = append(shares, (constant+s.P-low)%s.P)
	}
	secretOf(t, s, 2*s.T, opened, constant)
	secretOf(t, s, s.T, shares, value(s.P, x, 0)*value(s.P, y, 0)%s.P)
}

// secretOf checks that the shares are those of a sharing of this secret with degree d.
func secretOf(t *testing.T, s api.Setup, d int, shares []uint64, want uint64) {
	t.Helper()
	var points []api.Point
	for i, y := range shares {
		points = append(points, api.Point{X: uint64(i + 1), Y: y})
	}
	if secret, e := share.Secret(s.P, d, points); secret != want || e != api.OK {
		t.Error(s, d, shares, secret, want, e)
	}
}

// P7.9

func TestWholeOfMoved(t *testing.T) {
	for _, s := range setups() {
		random := randomFor(s)
		for range 10 {
			l := randomMask(random, s)
			z, q := drawn(random, s.P, s.T+1), drawn(random, s.P, s.T+1)
			moved, e := twice.Moved(s, l, z, q)
			if e != api.OK {
				t.Fatal(s, l, z, q, e)
			}
			if w := wholeOf(t, s, moved); !slices.Equal(w, plus(s.P, wholeOf(t, s, l), s.P-1, product(s.P, z, q))) {
				t.Error(s, l, z, q, w)
			}
			opposite := plus(s.P, nil, s.P-1, q)
			expect(t, "Moved back", got(twice.Moved(s, moved, z, opposite)), allStripped(l)...)
		}
	}
}

// hidesChange checks that the mask can be moved so that nobody notices that a z is added to x and b z to y.
func hidesChange(t *testing.T, s api.Setup, corrupted []int, x, y []uint64, a, b uint64, l [][]uint64) {
	t.Helper()
	away := away(s.P, corrupted)
	x2, y2 := plus(s.P, x, a, away), plus(s.P, y, b, away)
	d := plus(s.P, product(s.P, x2, y2), s.P-1, product(s.P, x, y))
	z, q, e := twice.Cut(s, corrupted, d)
	if e != api.OK || !slices.Equal(z, away) || len(q)-1 > s.T {
		t.Fatal(s, corrupted, x, y, a, b, z, q, e)
	}
	moved, e := twice.Moved(s, l, z, q)
	if e != api.OK || twice.Check(s, moved) != api.OK {
		t.Fatal(s, l, z, q, moved, e)
	}
	before, after := masked(t, s, x, y, l), masked(t, s, x2, y2, moved)
	if !slices.Equal(before, after) {
		t.Error("the opened polynomial changes", s, corrupted, x, y, a, b, l, before, after)
	}
	for _, party := range corrupted {
		point := uint64(party)
		if !slices.Equal(valuesAt(s.P, l, point), valuesAt(s.P, moved, point)) {
			t.Error("the values of a corrupted party change", s, corrupted, x, y, a, b, l, moved)
		}
		low, _ := twice.Low(s, l, point)
		high, _ := twice.High(s, l, point)
		expect(t, "Low of a corrupted party", number(twice.Low(s, moved, point)), list(low))
		expect(t, "High of a corrupted party", number(twice.High(s, moved, point)), list(high))
	}
}

func TestHiddenChange(t *testing.T) {
	for _, s := range setups() {
		random := randomFor(s)
		for _, corrupted := range groups(s) {
			l := randomMask(random, s)
			x, y := drawn(random, s.P, s.T+1), drawn(random, s.P, s.T+1)
			a, b := random.Uint64()%s.P, random.Uint64()%s.P
			hidesChange(t, s, corrupted, x, y, a, b, l)
			hidesChange(t, s, corrupted, x, x, a, a, l)
			hidesChange(t, s, corrupted, x, y, a, 0, l)
			hidesChange(t, s, corrupted, nil, y, 1, b, l)
			hidesChange(t, s, corrupted, x, y, 0, 0, l)
		}
	}
}

func TestHiddenChangeOfAll(t *testing.T) {
	s := api.Setup{P: 7, N: 5, T: 1}
	l := [][]uint64{{2, 3}, {1, 4}}
	for _, corrupted := range groups(s) {
		for _, c := range tuples(s.P, 4) {
			hidesChange(t, s, corrupted, list(c[0], 3), list(c[1], 5), c[2], c[3], l)
		}
	}
}

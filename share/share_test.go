package share_test

import (
	"math"
	"slices"
	"testing"

	"junto/api"
	"junto/share"
)

// P4.1

// isPrime is the reference for primes as the document defines them.
func isPrime(p uint64) bool {
	if p < 3 || p > 65537 {
		return false
	}
	for d := uint64(2); d*d <= p; d++ {
		if p%d == 0 {
			return false
		}
	}
	return true
}

func TestSetup(t *testing.T) {
	numbers := []uint64{65519, 65521, 65535, 65536, 65537, 65538, 65539, 1<<32 + 11, 1<<63 + 11, 1<<64 - 1}
	for p := range uint64(300) {
		numbers = append(numbers, p)
	}
	for _, p := range numbers {
		for n := -3; n <= 20; n++ {
			for threshold := -3; threshold <= 6; threshold++ {
				s, want := api.Setup{P: p, N: n, T: threshold}, api.ErrArg
				if isPrime(p) && n >= 1 && n <= 13 && threshold >= 0 && n >= 4*threshold+1 && p > uint64(n) {
					want = api.OK
				}
				if e := share.Setup(s); e != want {
					t.Error(s, e)
				}
			}
		}
	}
	for _, s := range badSetups() {
		if e := share.Setup(s); e != api.ErrArg {
			t.Error(s, e)
		}
	}
}

// lists returns all lists of at most n numbers from low to high.
func lists(n, low, high int) [][]int {
	all := [][]int{nil}
	last := all
	for range n {
		var longer [][]int
		for _, l := range last {
			for x := low; x <= high; x++ {
				longer = append(longer, append(slices.Clone(l), x))
			}
		}
		all, last = append(all, longer...), longer
	}
	return all
}

// isGroup is the reference for lists of corrupted parties.
func isGroup(s api.Setup, l []int) bool {
	for i, party := range l {
		if party < 1 || party > s.N || i > 0 && l[i-1] >= party {
			return false
		}
	}
	return len(l) <= s.T
}

func TestCorrupted(t *testing.T) {
	for _, s := range []api.Setup{{P: 3, N: 1}, {P: 11, N: 5}, {P: 11, N: 5, T: 1}, {P: 11, N: 9, T: 1}, {P: 11, N: 9, T: 2}, {P: 17, N: 13, T: 3}} {
		for _, l := range lists(4, -1, s.N+1) {
			want := api.ErrArg
			if isGroup(s, l) {
				want = api.OK
			}
			if e := share.Corrupted(s, l); e != want {
				t.Error(s, l, e)
			}
		}
		for _, l := range [][]int{{math.MinInt}, {math.MaxInt}, {1, math.MaxInt}, {math.MinInt, 1}, {1<<32 + 1}, make([]int, 100000)} {
			if e := share.Corrupted(s, l); e != api.ErrArg {
				t.Error(s, len(l), e)
			}
		}
	}
	if e := share.Corrupted(api.Setup{P: 17, N: 13, T: 3}, []int{1, 7, 13}); e != api.OK {
		t.Error(e)
	}
	if e := share.Corrupted(api.Setup{P: 11, N: 5, T: 1}, []int{}); e != api.OK {
		t.Error(e)
	}
}

func TestCorruptedOfBadSetups(t *testing.T) {
	for _, s := range badSetups() {
		for _, l := range [][]int{nil, {}, {1}, {0}, {1, 2}} {
			if e := share.Corrupted(s, l); e != api.ErrArg {
				t.Error(s, l, e)
			}
		}
	}
}

// P4.2

// made is the reference for the answer of Make.
func made(p, secret uint64, d int, tape []uint64) []uint64 {
	f := append(list(secret), make([]uint64, d)...)
	used := min(d, len(tape))
	for i := range used {
		f[i+1] = tape[i] % p
	}
	return slices.Concat(stripped(f), list(1<<20), tape[used:])
}

func TestMake(t *testing.T) {
	for _, s := range setups() {
		random := randomFor(s)
		for d := range s.N {
			for _, length := range []int{0, 1, d - 1, d, d + 1, d + 3, 40} {
				tape := make([]uint64, max(0, length))
				for i := range tape {
					tape[i] = random.Uint64() // most of these numbers are not field elements
				}
				for _, secret := range list(0, 1, s.P-1) {
					expect(t, "Make", both(share.Make(s, secret, d, tape)), made(s.P, secret, d, tape)...)
				}
			}
			for _, tape := range [][]uint64{nil, make([]uint64, 20), slices.Repeat(list(s.P), 20), slices.Repeat(list(1<<64-1), 20)} {
				expect(t, "Make", both(share.Make(s, 0, d, tape)), made(s.P, 0, d, tape)...)
				expect(t, "Make", both(share.Make(s, 2, d, tape)), made(s.P, 2, d, tape)...)
			}
		}
	}
}

func TestMakeWithoutTrailingZeros(t *testing.T) {
	s := api.Setup{P: 11, N: 5, T: 1}
	expect(t, "Make", both(share.Make(s, 4, 4, list(3, 0, 11, 22, 33))), 4, 3, 1<<20, 33)
	expect(t, "Make", both(share.Make(s, 0, 4, list(0, 0, 0, 1))), 0, 0, 0, 0, 1, 1<<20)
	expect(t, "Make of 0", both(share.Make(s, 0, 4, nil)), 1<<20)
	expect(t, "Make of 0", both(share.Make(s, 0, 0, list(12, 13))), 1<<20, 12, 13)
	expect(t, "Make with a short tape", both(share.Make(s, 0, 3, list(7))), 0, 7, 1<<20)
}

func TestMakeErrors(t *testing.T) {
	for _, s := range setups() {
		for _, d := range []int{math.MinInt, -1, s.N, s.N + 1, 200, 1 << 16, 1 << 32, math.MaxInt} {
			fails(t, "Make of a wrong degree", both(share.Make(s, 0, d, list(1, 2))), api.ErrArg)
		}
		for _, secret := range notBelow(s.P) {
			fails(t, "Make of no element", both(share.Make(s, secret, 0, list(1, 2))), api.ErrArg)
			fails(t, "Make of no element", both(share.Make(s, secret, -1, list(1, 2))), api.ErrArg)
		}
	}
}

func TestShares(t *testing.T) {
	for _, s := range setups() {
		random := randomFor(s)
		for _, n := range []int{0, 1, 2, s.N, s.N + 1, int(min(s.P, 150)) + 2, 200, 201} {
			f := drawn(random, s.P, n)
			expect(t, "Shares", got(share.Shares(s, f)), sharesOf(s, f)...)
			if n < 199 {
				expect(t, "Shares with trailing zeros", got(share.Shares(s, padded(f, 2))), sharesOf(s, f)...)
			}
		}
		expect(t, "Shares of 0", got(share.Shares(s, nil)), make([]uint64, s.N)...)
		expect(t, "Shares of a constant", got(share.Shares(s, list(s.P-1))), slices.Repeat(list(s.P-1), s.N)...)
	}
}

func TestSharesErrors(t *testing.T) {
	for _, s := range setups() {
		fails(t, "Shares of a long list", got(share.Shares(s, make([]uint64, 202))), api.ErrLimit)
		for _, x := range notBelow(s.P) {
			fails(t, "Shares of no element", got(share.Shares(s, list(x))), api.ErrArg)
			fails(t, "Shares of no element", got(share.Shares(s, list(1, x))), api.ErrArg)
			fails(t, "Shares of no element", got(share.Shares(s, append(make([]uint64, 200), x))), api.ErrArg)
			fails(t, "Shares of a long list", got(share.Shares(s, append(make([]uint64, 201), x))), api.ErrLimit)
		}
	}
}

// P4.3

// values returns points at these xs on the polynomial f.
func values(p uint64, f []uint64, xs ...uint64) []api.Point {
	var l []api.Point
	for _, x := range xs {
		l = append(l, api.Point{X: x, Y: at(p, f, x)})
	}
	return l
}

func TestSecret(t *testing.T) {
	for _, p := range primes {
		random := randomFor(api.Setup{P: p})
		for n := 1; n <= min(20, int(p)); n++ {
			factor := 1 + random.Uint64()%(p-1)
			var xs []uint64
			for _, x := range random.Perm(min(40, int(p)))[:n] {
				xs = append(xs, uint64(x)*factor%p) // 0 may be among them
			}
			for d := range n {
				f := append(drawn(random, p, d), 1+random.Uint64()%(p-1))
				l := values(p, f, xs...)
				expect(t, "Secret", number(share.Secret(p, d, l)), f[0])
				if d+1 < n {
					expect(t, "Secret of a higher degree", number(share.Secret(p, d+1, l)), f[0])
				}
				if d > 0 {
					fails(t, "Secret of a lower degree", number(share.Secret(p, d-1, l)), api.ErrWrong)
				}
				fails(t, "Secret of too few points", number(share.Secret(p, n, l)), api.ErrFew)
			}
		}
	}
}

func TestSecretOfManyPoints(t *testing.T) {
	random := randomFor(api.Setup{})
	for _, p := range list(211, 65537) {
		var xs []uint64
		for x := range uint64(201) {
			xs = append(xs, p-1-x)
		}
		f := append(drawn(random, p, 200), 1)
		l := values(p, f, xs...)
		expect(t, "Secret of degree 200", number(share.Secret(p, 200, l)), f[0])
		fails(t, "Secret of degree 199", number(share.Secret(p, 199, l)), api.ErrWrong)
		fails(t, "Secret of 200 points", number(share.Secret(p, 200, l[:200])), api.ErrFew)
	}
}

func TestSecretOfFewPoints(t *testing.T) {
	for _, p := range primes {
		for _, d := range []int{0, 1, 200} {
			fails(t, "Secret of nothing", number(share.Secret(p, d, nil)), api.ErrFew)
		}
		expect(t, "Secret of the point at 0", number(share.Secret(p, 0, []api.Point{{X: 0, Y: 2}})), 2)
		fails(t, "Secret of the point at 0", number(share.Secret(p, 1, []api.Point{{X: 0, Y: 2}})), api.ErrFew)
		expect(t, "Secret of a constant", number(share.Secret(p, 0, []api.Point{{X: 1, Y: 2}, {X: 2, Y: 2}})), 2)
		fails(t, "Secret of no constant", number(share.Secret(p, 0, []api.Point{{X: 1, Y: 2}, {X: 2, Y: 1}})), api.ErrWrong)
		expect(t, "Secret of zeros", number(share.Secret(p, 1, []api.Point{{X: 1}, {X: 2}})), 0)
		fails(t, "Secret of one wrong zero", number(share.Secret(p, 1, []api.Point{{X: 0, Y: 1}, {X: 1}, {X: 2}})), api.ErrWrong)
	}
}

// Every step of this test breaks one more of the conditions, in the reverse order of the chapter.
func TestOrderOfErrorsOfSecret(t *testing.T) {
	for _, p := range primes {
		l := []api.Point{{X: 0, Y: 1}, {X: 1, Y: 2}, {X: 2, Y: 0}}
		fails(t, "wrong", number(share.Secret(p, 0, l)), api.ErrWrong)
		fails(t, "few", number(share.Secret(p, 3, l)), api.ErrFew)
		l = append(l, api.Point{X: 1, Y: 2})
		fails(t, "twice and wrong", number(share.Secret(p, 0, l)), api.ErrTwice)
		fails(t, "twice and few", number(share.Secret(p, 4, l)), api.ErrTwice)
		for _, x := range notBelow(p) {
			for _, bad := range []api.Point{{X: x}, {Y: x}, {X: x, Y: x}} {
				fails(t, "no element", number(share.Secret(p, 4, append(l, bad))), api.ErrArg)
				fails(t, "no element", number(share.Secret(p, 0, []api.Point{bad})), api.ErrArg)
				fails(t, "202 points", number(share.Secret(p, 4, append(make([]api.Point, 201), bad))), api.ErrLimit)
			}
		}
		fails(t, "201 equal points", number(share.Secret(p, 4, make([]api.Point, 201))), api.ErrTwice)
		for _, n := range []int{0, 1, 3, 201, 202} {
			for _, d := range []int{math.MinInt, -1, 201, math.MaxInt} {
				fails(t, "wrong degree", number(share.Secret(p, d, make([]api.Point, n))), api.ErrArg)
			}
		}
	}
	for _, p := range list(0, 1, 2, 9, 65536, 65539, 1<<32+11, 1<<64-1) {
		for _, n := range []int{0, 1, 3, 201, 202} {
			fails(t, "no prime", number(share.Secret(p, 0, make([]api.Point, n))), api.ErrArg)
		}
	}
}

// P4.4

func TestFits(t *testing.T) {
	for _, s := range setups() {
		random := randomFor(s)
		for degree := -1; degree < s.N; degree++ {
			var f []uint64
			if degree >= 0 {
				f = append(drawn(random, s.P, degree), 1+random.Uint64()%(s.P-1))
			}
			l := sharesOf(s, f)
			for _, d := range []int{0, 1, 2, 3, 6, 9, s.N - 1, s.N, 200, 1 << 20, math.MaxInt} {
				want := uint64(0)
				if degree <= d {
					want = 1
				}
				expect(t, "Fits", truth(share.Fits(s, d, l)), want)
			}
		}
	}
}

func TestFitsOfOneWrongShare(t *testing.T) {
	for _, s := range setups() {
		random := randomFor(s)
		for d := range s.N - 1 {
			l := sharesOf(s, drawn(random, s.P, d+1))
			for i := range l {
				wrong := replaced(l, i, (l[i]+1+random.Uint64()%(s.P-1))%s.P)
				expect(t, "Fits", truth(share.Fits(s, d, wrong)), 0)
			}
		}
	}
}

func TestFitsErrors(t *testing.T) {
	for _, s := range setups() {
		l := make([]uint64, s.N)
		fails(t, "Fits of a negative degree", truth(share.Fits(s, -1, l)), api.ErrArg)
		fails(t, "Fits of a negative degree", truth(share.Fits(s, math.MinInt, l)), api.ErrArg)
		for _, n := range []int{0, s.N - 1, s.N + 1, 201, 202, 1000} {
			fails(t, "Fits of a wrong length", truth(share.Fits(s, 20, make([]uint64, n))), api.ErrArg)
		}
		for _, x := range notBelow(s.P) {
			for i := range l {
				fails(t, "Fits of no element", truth(share.Fits(s, 20, replaced(l, i, x))), api.ErrArg)
			}
		}
	}
}

// P4.5

func TestSum(t *testing.T) {
	for _, s := range setups() {
		random := randomFor(s)
		expect(t, "Sum of nothing", got(share.Sum(s)), make([]uint64, s.N)...)
		for _, n := range []int{1, 2, 3, 50} {
			want := make([]uint64, s.N)
			var all [][]uint64
			for range n {
				l := drawn(random, s.P, s.N)
				for i, x := range l {
					want[i] = (want[i] + x) % s.P
				}
				all = append(all, l)
			}
			expect(t, "Sum", got(share.Sum(s, all...)), want...)
		}
		most := slices.Repeat(list(s.P-1), s.N)
		expect(t, "Sum of the largest", got(share.Sum(s, most, most)), slices.Repeat(list(s.P-2), s.N)...)
	}
}

func TestSumErrors(t *testing.T) {
	for _, s := range setups() {
		l := make([]uint64, s.N)
		for _, n := range []int{0, s.N - 1, s.N + 1, 202} {
			wrong := make([]uint64, n)
			fails(t, "Sum of a wrong length", got(share.Sum(s, wrong)), api.ErrArg)
			fails(t, "Sum of a wrong length first", got(share.Sum(s, wrong, l)), api.ErrArg)
			fails(t, "Sum of a wrong length last", got(share.Sum(s, l, l, wrong)), api.ErrArg)
		}
		for _, x := range notBelow(s.P) {
			for i := range l {
				wrong := replaced(l, i, x)
				fails(t, "Sum of no element", got(share.Sum(s, wrong)), api.ErrArg)
				fails(t, "Sum of no element first", got(share.Sum(s, wrong, l)), api.ErrArg)
				fails(t, "Sum of no element last", got(share.Sum(s, l, l, wrong)), api.ErrArg)
			}
		}
	}
}

func TestScale(t *testing.T) {
	for _, s := range setups() {
		l := drawn(randomFor(s), s.P, s.N)
		for _, k := range list(0, 1, 2, s.P/2, s.P-1) {
			var want []uint64
			for _, x := range l {
				want = append(want, x*k%s.P)
			}
			expect(t, "Scale", got(share.Scale(s, l, k)), want...)
		}
	}
}

func TestScaleErrors(t *testing.T) {
	for _, s := range setups() {
		l := make([]uint64, s.N)
		for _, n := range []int{0, s.N - 1, s.N + 1, 202} {
			fails(t, "Scale of a wrong length", got(share.Scale(s, make([]uint64, n), 1)), api.ErrArg)
		}
		for _, x := range notBelow(s.P) {
			fails(t, "Scale by no element", got(share.Scale(s, l, x)), api.ErrArg)
			for i := range l {
				fails(t, "Scale of no element", got(share.Scale(s, replaced(l, i, x), 0)), api.ErrArg)
			}
		}
	}
}

// P4.6

// moves checks Move. A polynomial that is 0 at the corrupted parties is a multiple of the one that is also 1 at 0;
// if it has no higher degree, that is a multiple by a number.
func moves(t *testing.T, s api.Setup, f []uint64, corrupted []int, secret uint64) {
	t.Helper()
	g, e := share.Move(s, f, corrupted, secret)
	if e != api.OK || at(s.P, g, 0) != secret || len(g) != len(stripped(g)) {
		t.Error(s, f, corrupted, secret, g, e)
	}
	change := padded(g, max(0, len(f)-len(g)))
	for i, x := range f {
		change[i] = (change[i] + s.P - x) % s.P
	}
	if len(stripped(change)) > len(corrupted)+1 {
		t.Error(s, f, corrupted, secret, g)
	}
	for _, party := range corrupted {
		if at(s.P, change, uint64(party)) != 0 {
			t.Error(s, f, corrupted, secret, g)
		}
	}
}

func TestMove(t *testing.T) {
	for _, s := range setups() {
		random := randomFor(s)
		for _, corrupted := range smallGroups(s) {
			for _, n := range []int{0, 1, s.T + 1, s.N} {
				f := drawn(random, s.P, n)
				moves(t, s, f, corrupted, random.Uint64()%s.P)
				moves(t, s, f, corrupted, at(s.P, f, 0))
				moves(t, s, padded(f, 3), corrupted, 0)
			}
		}
		moves(t, s, drawn(random, s.P, 201), nil, s.P-1)
		moves(t, s, padded(list(1), 200), nil, 0)
	}
}

func TestMoveOfAll(t *testing.T) {
	s := api.Setup{P: 7, N: 5, T: 1}
	for _, f := range tuples(7, 3) {
		for _, corrupted := range smallGroups(s) {
			for secret := range s.P {
				moves(t, s, f, corrupted, secret)
			}
		}
	}
}

func TestMoveWithoutTrailingZeros(t *testing.T) {
	s := api.Setup{P: 11, N: 5, T: 1}
	expect(t, "Move to the same secret", got(share.Move(s, list(4, 3, 0, 0), []int{2}, 4)), 4, 3)
	expect(t, "Move to 0", got(share.Move(s, list(4, 9), []int{2}, 0)))
	expect(t, "Move of 0", got(share.Move(s, nil, []int{2}, 1)), 1, 5)
	expect(t, "Move without corrupted parties", got(share.Move(s, list(4), nil, 0)))
	expect(t, "Move without corrupted parties", got(share.Move(s, list(4, 3), []int{}, 9)), 9, 3)
}

func TestMoveErrors(t *testing.T) {
	for _, s := range setups() {
		long := make([]uint64, 202)
		for _, l := range [][]int{{0}, {-1}, {s.N + 1}, {1, 1}, {2, 1}, firstParties(s.T + 1), make([]int, 300)} {
			fails(t, "Move with wrong parties", got(share.Move(s, list(1), l, 0)), api.ErrArg)
			fails(t, "Move of a long list with wrong parties", got(share.Move(s, long, l, 0)), api.ErrArg)
		}
		fails(t, "Move of a long list", got(share.Move(s, long, nil, 0)), api.ErrLimit)
		for _, x := range notBelow(s.P) {
			fails(t, "Move of a long list to no element", got(share.Move(s, long, nil, x)), api.ErrLimit)
			fails(t, "Move of a long list of no element", got(share.Move(s, replaced(long, 0, x), nil, 0)), api.ErrLimit)
			fails(t, "Move of no element", got(share.Move(s, list(1, x), nil, 0)), api.ErrArg)
			fails(t, "Move of no element", got(share.Move(s, list(x), nil, 0)), api.ErrArg)
			fails(t, "Move to no element", got(share.Move(s, list(1), nil, x)), api.ErrArg)
			fails(t, "Move of nothing to no element", got(share.Move(s, nil, nil, x)), api.ErrArg)
		}
	}
}

// The example of the chapter, and those of the document about shares.

func TestExamples(t *testing.T) {
	s := api.Setup{P: 11, N: 5, T: 1}
	expect(t, "Make", both(share.Make(s, 4, 1, list(3, 9))), 4, 3, 1<<20, 9)
	expect(t, "Shares", got(share.Shares(s, list(4, 3))), 7, 10, 2, 5, 8)
	expect(t, "Move", got(share.Move(s, list(4, 3), []int{2}, 6)), 6, 2)
	expect(t, "Fits", truth(share.Fits(s, 1, list(7, 10, 5, 5, 8))), 0)
}

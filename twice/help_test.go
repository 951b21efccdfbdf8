package twice_test

import (
	"math/rand"
	"slices"
	"testing"

	"junto/api"
	"junto/twice"
)

var primes = []uint64{3, 5, 7, 11, 13, 17, 211, 65521, 65537}

// sizes are the numbers of elements that are drawn for a mask with T = 0, 1, 2, 3.
var sizes = []int{0, 3, 8, 15}

// notBelow returns numbers that are not elements modulo p.
func notBelow(p uint64) []uint64 {
	return []uint64{p, p + 1, 2 * p, 1 << 32, 1<<32 + 1, 1 << 63, 1<<64 - 1}
}

// setups returns all setups of a few primes.
func setups() []api.Setup {
	var l []api.Setup
	for _, p := range primes {
		for n := 1; n <= 13 && uint64(n) < p; n++ {
			for t := 0; 4*t+1 <= n; t++ {
				l = append(l, api.Setup{P: p, N: n, T: t})
			}
		}
	}
	return l
}

// fewSetups returns one setup for each threshold and a few primes.
func fewSetups() []api.Setup {
	return slices.DeleteFunc(setups(), func(s api.Setup) bool { return s.N != 4*s.T+1 })
}

// badSetups returns setups each of which breaks one condition. The thresholds of some overflow when they are
// multiplied by 4.
func badSetups() []api.Setup {
	return []api.Setup{
		{}, {P: 11}, {N: 5, T: 1}, {P: 2, N: 1}, {P: 9, N: 5, T: 1}, {P: 65539, N: 5, T: 1}, {P: 1<<32 + 11, N: 5, T: 1},
		{P: 11, N: -5, T: 1}, {P: 11, N: -1 << 63}, {P: 17, N: 14, T: 1}, {P: 65537, N: 1<<32 + 5, T: 1}, {P: 17, N: 1<<63 - 1},
		{P: 3, N: 3}, {P: 5, N: 5, T: 1}, {P: 5, N: 6, T: 1}, {P: 13, N: 13, T: 3},
		{P: 11, N: 5, T: -1}, {P: 11, N: 5, T: -1 << 63}, {P: 11, N: 4, T: 1}, {P: 11, N: 5, T: 2}, {P: 11, N: 8, T: 2},
		{P: 17, N: 12, T: 3}, {P: 17, N: 13, T: 4}, {P: 11, N: 5, T: 1 << 61}, {P: 11, N: 5, T: 1 << 62}, {P: 11, N: 5, T: 1<<63 - 1},
	}
}

// list makes lists of numbers shorter to write.
func list(l ...uint64) []uint64 {
	return l
}

func randomFor(s api.Setup) *rand.Rand {
	return rand.New(rand.NewSource(int64(s.P)*1000 + int64(s.N)*10 + int64(s.T)))
}

// drawn returns n random field elements.
func drawn(random *rand.Rand, p uint64, n int) []uint64 {
	l := make([]uint64, n)
	for i := range l {
		l[i] = random.Uint64() % p
	}
	return l
}

// randomMask returns T + 1 lists of T + 1 coefficients. Some of them are 0, also at the end of a list.
func randomMask(random *rand.Rand, s api.Setup) [][]uint64 {
	l := make([][]uint64, s.T+1)
	for k := range l {
		l[k] = drawn(random, s.P, s.T+1)
		for i := range l[k] {
			if random.Intn(4) == 0 {
				l[k][i] = 0
			}
		}
	}
	return l
}

// copied returns the lists in new memory.
func copied(l [][]uint64) [][]uint64 {
	c := make([][]uint64, len(l))
	for i, f := range l {
		c[i] = slices.Clone(f)
	}
	return c
}

// replaced returns the lists with another one at one place, in new memory.
func replaced(l [][]uint64, at int, f []uint64) [][]uint64 {
	l = copied(l)
	l[at] = f
	return l
}

// padded returns the list with n more zeros, in new memory.
func padded(l []uint64, n int) []uint64 {
	return append(slices.Clone(l), make([]uint64, n)...)
}

// stripped is the reference for polynomials without trailing zeros.
func stripped(f []uint64) []uint64 {
	n := len(f)
	for n > 0 && f[n-1] == 0 {
		n--
	}
	return f[:n]
}

func allStripped(l [][]uint64) [][]uint64 {
	var all [][]uint64
	for _, f := range l {
		all = append(all, stripped(f))
	}
	return all
}

// term is the coefficient of x^i, 0 after the end of f.
func term(f []uint64, i int) uint64 {
	if i < len(f) {
		return f[i]
	}
	return 0
}

// value is the reference for values: the sum of the terms.
func value(p uint64, f []uint64, x uint64) uint64 {
	sum, power := uint64(0), uint64(1)
	for _, c := range f {
		sum = (sum + c*power) % p
		power = power * x % p
	}
	return sum
}

// plus is the reference for f + k g.
func plus(p uint64, f []uint64, k uint64, g []uint64) []uint64 {
	sum := make([]uint64, max(len(f), len(g)))
	for i := range sum {
		sum[i] = (term(f, i) + k*term(g, i)) % p
	}
	return stripped(sum)
}

// product is the reference for f g.
func product(p uint64, f, g []uint64) []uint64 {
	sum := make([]uint64, len(f)+len(g))
	for i, a := range f {
		for k, b := range g {
			sum[i+k] = (sum[i+k] + a*b) % p
		}
	}
	return stripped(sum)
}

// entire is the reference for Whole: the coefficient i of the polynomial k belongs to x^(i+k).
func entire(p uint64, l [][]uint64) []uint64 {
	sum := make([]uint64, 2*len(l))
	for k, f := range l {
		for i, c := range f {
			sum[i+k] = (sum[i+k] + c) % p
		}
	}
	return stripped(sum)
}

// away is the reference for the polynomial that is 1 at 0 and 0 at the points of these parties: the product of all
// x - c, divided by its value at 0.
func away(p uint64, parties []int) []uint64 {
	z := list(1)
	for _, c := range parties {
		z = product(p, z, list(p-uint64(c), 1))
	}
	inverse := uint64(1)
	for inverse*z[0]%p != 1 {
		inverse++
	}
	return product(p, list(inverse), z)
}

// valuesAt returns the values of all polynomials at x.
func valuesAt(p uint64, l [][]uint64, x uint64) []uint64 {
	var values []uint64
	for _, f := range l {
		values = append(values, value(p, f, x))
	}
	return values
}

// places returns arguments from both ends of the field.
func places(p uint64) []uint64 {
	var l []uint64
	for x := range p {
		if x < 14 || x+3 >= p {
			l = append(l, x)
		}
	}
	return l
}

// tuples returns all lists of n field elements.
func tuples(p uint64, n int) [][]uint64 {
	if n == 0 {
		return [][]uint64{nil}
	}
	var l [][]uint64
	for _, t := range tuples(p, n-1) {
		for x := range p {
			l = append(l, append(slices.Clone(t), x))
		}
	}
	return l
}

// groups returns all strictly increasing lists of at most T parties.
func groups(s api.Setup) [][]int {
	l := [][]int{nil}
	for party := 1; party <= s.N; party++ {
		for _, g := range slices.Clone(l) {
			if len(g) < s.T {
				l = append(l, append(slices.Clone(g), party))
			}
		}
	}
	return l
}

// answer is what a function of twice returned.
type answer struct {
	l [][]uint64
	e api.Errno
}

func got(l [][]uint64, e api.Errno) answer {
	return answer{l, e}
}

// polynomial makes an answer of a function that returns a list.
func polynomial(l []uint64, e api.Errno) answer {
	if e != api.OK && len(l) == 0 {
		return answer{nil, e}
	}
	return answer{[][]uint64{l}, e}
}

// number makes an answer of a function that returns a number.
func number(n uint64, e api.Errno) answer {
	if e != api.OK && n == 0 {
		return answer{nil, e}
	}
	return answer{[][]uint64{{n}}, e}
}

// made makes an answer of Make: the polynomials of the mask, and the rest of the tape.
func made(l [][]uint64, rest []uint64, e api.Errno) answer {
	if e != api.OK && len(l)+len(rest) == 0 {
		return answer{nil, e}
	}
	return answer{append(l, rest), e}
}

// cut makes an answer of Cut: the polynomial and the quotient.
func cut(z, q []uint64, e api.Errno) answer {
	if e != api.OK && len(z)+len(q) == 0 {
		return answer{nil, e}
	}
	return answer{[][]uint64{z, q}, e}
}

func equal(a, b [][]uint64) bool {
	return slices.EqualFunc(a, b, slices.Equal)
}

func (a answer) equals(b answer) bool {
	return a.e == b.e && equal(a.l, b.l)
}

func expect(t *testing.T, what string, a answer, want ...[]uint64) {
	t.Helper()
	if !a.equals(answer{want, api.OK}) {
		t.Errorf("%s is %v with error %d, not %v", what, a.l, a.e, want)
	}
}

// fails checks the error, and that it comes with zero values.
func fails(t *testing.T, what string, a answer, e api.Errno) {
	t.Helper()
	if !a.equals(answer{nil, e}) {
		t.Errorf("%s is %v with error %d, not error %d", what, a.l, a.e, e)
	}
}

// failsFirst checks that every function that takes a mask returns this error, whatever its other arguments are.
func failsFirst(t *testing.T, what string, s api.Setup, l [][]uint64, want api.Errno) {
	t.Helper()
	if e := twice.Check(s, l); e != want {
		t.Errorf("Check with %s returns error %d, not %d", what, e, want)
	}
	fails(t, "Whole with "+what, polynomial(twice.Whole(s, l)), want)
	for _, x := range list(0, 1, s.P, 1<<64-1) {
		fails(t, "Low with "+what, number(twice.Low(s, l, x)), want)
		fails(t, "High with "+what, number(twice.High(s, l, x)), want)
		for _, f := range [][]uint64{nil, {1}, {x}, make([]uint64, 300)} {
			fails(t, "Moved with "+what, got(twice.Moved(s, l, f, nil)), want)
			fails(t, "Moved with "+what, got(twice.Moved(s, l, nil, f)), want)
			fails(t, "Moved with "+what, got(twice.Moved(s, l, f, f)), want)
		}
	}
}

package share_test

import (
	"math/rand"
	"slices"
	"testing"

	"junto/api"
)

var primes = []uint64{3, 5, 7, 11, 13, 17, 211, 65521, 65537}

// notBelow returns numbers that are not elements modulo p.
func notBelow(p uint64) []uint64 {
	return []uint64{p, p + 1, 2 * p, 1 << 32, 1<<32 + 1, 1 << 63, 1<<64 - 1}
}

// setups returns all setups of a few primes.
func setups() []api.Setup {
	var l []api.Setup
	for _, p := range primes {
		for n := 1; n <= 13 && uint64(n) < p; n++ {
			for t := 0; 4*t+1 <= n; t++ {
				l = append(l, api.Setup{P: p, N: n, T: t})
			}
		}
	}
	return l
}

// badSetups returns setups each of which breaks one condition. The thresholds of some overflow when they are
// multiplied by 4.
func badSetups() []api.Setup {
	return []api.Setup{
		{}, {P: 11}, {N: 5, T: 1}, {P: 2, N: 1}, {P: 9, N: 5, T: 1}, {P: 65539, N: 5, T: 1}, {P: 1<<32 + 11, N: 5, T: 1},
		{P: 11, N: -5, T: 1}, {P: 11, N: -1 << 63}, {P: 17, N: 14, T: 1}, {P: 65537, N: 1<<32 + 5, T: 1}, {P: 17, N: 1<<63 - 1},
		{P: 3, N: 3}, {P: 5, N: 5, T: 1}, {P: 5, N: 6, T: 1}, {P: 13, N: 13, T: 3},
		{P: 11, N: 5, T: -1}, {P: 11, N: 5, T: -1 << 63}, {P: 11, N: 4, T: 1}, {P: 11, N: 5, T: 2}, {P: 11, N: 8, T: 2},
		{P: 17, N: 12, T: 3}, {P: 17, N: 13, T: 4}, {P: 11, N: 5, T: 1 << 61}, {P: 11, N: 5, T: 1 << 62}, {P: 11, N: 5, T: 1<<63 - 1},
	}
}

// list makes lists of numbers shorter to write.
func list(l ...uint64) []uint64 {
	return l
}

func randomFor(s api.Setup) *rand.Rand {
	return rand.New(rand.NewSource(int64(s.P)*1000 + int64(s.N)*10 + int64(s.T)))
}

// drawn returns n random field elements.
func drawn(random *rand.Rand, p uint64, n int) []uint64 {
	l := make([]uint64, n)
	for i := range l {
		l[i] = random.Uint64() % p
	}
	return l
}

// replaced returns the list with another number at one place, in new memory.
func replaced(l []uint64, at int, x uint64) []uint64 {
	l = slices.Clone(l)
	l[at] = x
	return l
}

// padded returns the list with n more zeros, in new memory.
func padded(l []uint64, n int) []uint64 {
	return append(slices.Clone(l), make([]uint64, n)...)
}

// stripped is the reference for polynomials without trailing zeros.
func stripped(f []uint64) []uint64 {
	n := len(f)
	for n > 0 && f[n-1] == 0 {
		n--
	}
	return f[:n]
}

// at is the reference for values: the sum of the terms.
func at(p uint64, f []uint64, x uint64) uint64 {
	sum, power := uint64(0), uint64(1)
	for _, c := range f {
		sum = (sum + c*power%p) % p
		power = power * x % p
	}
	return sum
}

// sharesOf is the reference for shares.
func sharesOf(s api.Setup, f []uint64) []uint64 {
	var l []uint64
	for x := 1; x <= s.N; x++ {
		l = append(l, at(s.P, f, uint64(x)))
	}
	return l
}

// tuples returns all lists of n field elements.
func tuples(p uint64, n int) [][]uint64 {
	if n == 0 {
		return [][]uint64{nil}
	}
	var l [][]uint64
	for _, t := range tuples(p, n-1) {
		for x := range p {
			l = append(l, append(slices.Clone(t), x))
		}
	}
	return l
}

// groups returns all strictly increasing lists of parties.
func groups(n int) [][]int {
	l := [][]int{nil}
	for party := 1; party <= n; party++ {
		for _, g := range slices.Clone(l) {
			l = append(l, append(slices.Clone(g), party))
		}
	}
	return l
}

// smallGroups returns all lists of at most T parties.
func smallGroups(s api.Setup) [][]int {
	return slices.DeleteFunc(groups(s.N), func(g []int) bool { return len(g) > s.T })
}

// firstParties returns the first n parties.
func firstParties(n int) []int {
	var l []int
	for party := 1; party <= n; party++ {
		l = append(l, party)
	}
	return l
}

// answer is what a function of share returned.
type answer struct {
	l []uint64
	e api.Errno
}

func got(l []uint64, e api.Errno) answer {
	return answer{l, e}
}

// number makes an answer of a function that returns a number.
func number(n uint64, e api.Errno) answer {
	if e != api.OK && n == 0 {
		return answer{nil, e}
	}
	return answer{list(n), e}
}

// truth makes an answer of a function that returns a bool.
func truth(b bool, e api.Errno) answer {
	if b {
		return answer{list(1), e}
	}
	return number(0, e)
}

// both makes an answer of Make: the polynomial, a number that is no coefficient, and the rest of the tape.
func both(f, rest []uint64, e api.Errno) answer {
	if len(f)+len(rest) == 0 && e != api.OK {
		return answer{nil, e}
	}
	return answer{slices.Concat(f, list(1<<20), rest), e}
}

func expect(t *testing.T, what string, a answer, want ...uint64) {
	t.Helper()
	if a.e != api.OK || !slices.Equal(a.l, want) {
		t.Errorf("%s is %v with error %d, not %v", what, a.l, a.e, want)
	}
}

// fails checks the error, and that it comes with zero values.
func fails(t *testing.T, what string, a answer, e api.Errno) {
	t.Helper()
	if a.e != e || len(a.l) != 0 {
		t.Errorf("%s is %v with error %d, not error %d", what, a.l, a.e, e)
	}
}

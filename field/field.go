// Package field (layer 1): arithmetic modulo a prime. See shared/doc/01-field.md.
//
// The exported functions check their arguments and return errors; the functions that they share rely on
// these checks.
package field

import (
	"slices"

	"junto/api"
)

// maxDraw is the largest number of elements that Draw returns.
const maxDraw = 1 << 16

// Add returns the sum of a and b.
func Add(p, a, b uint64) (uint64, api.Errno) {
	if !valid(p, a, b) {
		return 0, api.ErrArg
	}
	return (a + b) % p, api.OK
}

// Sub returns the difference of a and b.
func Sub(p, a, b uint64) (uint64, api.Errno) {
	if !valid(p, a, b) {
		return 0, api.ErrArg
	}
	return (a + p - b) % p, api.OK
}

// Mul returns the product of a and b.
func Mul(p, a, b uint64) (uint64, api.Errno) {
	if !valid(p, a, b) {
		return 0, api.ErrArg
	}
	return a * b % p, api.OK
}

// Inv returns the multiplicative inverse of a, or ErrZero if a is 0.
func Inv(p, a uint64) (uint64, api.Errno) {
	return Div(p, 1, a)
}

// Div returns the product of a and the inverse of b, or ErrZero if b is 0.
func Div(p, a, b uint64) (uint64, api.Errno) {
	if !valid(p, a, b) {
		return 0, api.ErrArg
	}
	if b == 0 {
		return 0, api.ErrZero
	}
	return a * inverse(p, b) % p, api.OK
}

// Pow returns a to the power e.
func Pow(p, a, e uint64) (uint64, api.Errno) {
	if !valid(p, a) {
		return 0, api.ErrArg
	}
	return power(p, a, e), api.OK
}

// Int returns the field element that is congruent to n.
func Int(p uint64, n int64) (uint64, api.Errno) {
	if !valid(p) {
		return 0, api.ErrArg
	}
	rest := n % int64(p)
	if rest < 0 {
		rest += int64(p)
	}
	return uint64(rest), api.OK
}

// Sum returns the sum of all elements of l.
func Sum(p uint64, l ...uint64) (uint64, api.Errno) {
	if !valid(p, l...) {
		return 0, api.ErrArg
	}
	// An element has at most 17 bits, so that the sum of fewer than 2^47 of them does not overflow.
	sum := uint64(0)
	for _, x := range l {
		sum += x
	}
	return sum % p, api.OK
}

// Dot returns the sum of the products of the elements of a and b.
func Dot(p uint64, a, b []uint64) (uint64, api.Errno) {
	if !valid(p, a...) || !valid(p, b...) || len(a) != len(b) {
		return 0, api.ErrArg
	}
	// A product is at most 2^32, so that the sum of fewer than 2^32 of them does not overflow.
	sum := uint64(0)
	for i, x := range a {
		sum += x * b[i]
	}
	return sum % p, api.OK
}

// Inverses returns the inverses of all elements, or ErrZero if one of them is 0.
func Inverses(p uint64, l []uint64) ([]uint64, api.Errno) {
	if !valid(p, l...) {
		return nil, api.ErrArg
	}
	if slices.Contains(l, 0) {
		return nil, api.ErrZero
	}
	// An inverse costs many products. Therefore only the product of all elements is inverted, and the
	// inverse of an element is that inverse times the products of the elements before and after it.
	inverses := make([]uint64, len(l))
	before := uint64(1)
	for i, x := range l {
		inverses[i] = before
		before = before * x % p
	}
	rest := inverse(p, before)
	for i, x := range slices.Backward(l) {
		inverses[i] = inverses[i] * rest % p
		rest = rest * x % p
	}
	return inverses, api.OK
}

// Square reports whether a is the square of a field element.
func Square(p, a uint64) (bool, api.Errno) {
	if !valid(p, a) {
		return false, api.ErrArg
	}
	return power(p, a, (p-1)/2) <= 1, api.OK
}

// Root returns the smaller of the field elements whose square is a, or ErrNone if there is none.
func Root(p, a uint64) (uint64, api.Errno) {
	if !valid(p, a) {
		return 0, api.ErrArg
	}
	// With r, p - r is a root, too, so that the smaller one is at most p / 2. That leaves few candidates.
	for r := uint64(0); r <= p/2; r++ {
		if r*r%p == a {
			return r, api.OK
		}
	}
	return 0, api.ErrNone
}

// Draw returns the next n numbers of the tape, reduced modulo p, and the rest of the tape.
func Draw(p uint64, tape []uint64, n int) ([]uint64, []uint64, api.Errno) {
	if !valid(p) || n < 0 || n > maxDraw {
		return nil, nil, api.ErrArg
	}
	used := min(n, len(tape))
	drawn := make([]uint64, n)
	for i, x := range tape[:used] {
		drawn[i] = x % p
	}
	return drawn, slices.Clone(tape[used:]), api.OK
}

// power returns a to the power e.
func power(p, a, e uint64) uint64 {
	result := uint64(1)
	for ; e > 0; e /= 2 {
		if e%2 == 1 {
			result = result * a % p
		}
		a = a * a % p
	}
	return result
}

// inverse returns the inverse of a, which is not 0; by Fermat's theorem, a to the power p - 1 is 1.
func inverse(p, a uint64) uint64 {
	return power(p, a, p-2)
}

package poly

import (
	"slices"

	"junto/api"
	"junto/field"
)

// maxTerms is the largest number of coefficients.
const maxTerms = api.MaxDegree + 1

// check returns an error if p is not a prime, or if l is longer than limit or contains a number that is not a
// field element.
func check(p uint64, l []uint64, limit int) api.Errno {
	if !field.Is(p) {
		return api.ErrArg
	}
	if len(l) > limit {
		return api.ErrLimit
	}
	for _, x := range l {
		if x >= p {
			return api.ErrArg
		}
	}
	return api.OK
}

// checkPoints returns an error if p is not a prime, or if there are too many points or a coordinate is not a
// field element.
func checkPoints(p uint64, l []api.Point) api.Errno {
	if !field.Is(p) {
		return api.ErrArg
	}
	if len(l) > maxTerms {
		return api.ErrLimit
	}
	for _, point := range l {
		if point.X >= p || point.Y >= p {
			return api.ErrArg
		}
	}
	return api.OK
}

// onOne applies an operation to a polynomial whose coefficients have not been checked.
func onOne(p uint64, f []uint64, op func(f []uint64) []uint64) ([]uint64, api.Errno) {
	if e := check(p, f, maxTerms); e != api.OK {
		return nil, e
	}
	return op(trim(f)), api.OK
}

// onTwo applies an operation to two polynomials whose coefficients have not been checked.
func onTwo(p uint64, f, g []uint64, op func(f, g []uint64) ([]uint64, api.Errno)) ([]uint64, api.Errno) {
	if e := check(p, f, maxTerms); e != api.OK {
		return nil, e
	}
	if e := check(p, g, maxTerms); e != api.OK {
		return nil, e
	}
	return op(trim(f), trim(g))
}

// trim returns f without trailing zeros, in the same memory.
func trim(f []uint64) []uint64 {
	for i, c := range slices.Backward(f) {
		if c != 0 {
			return f[:i+1]
		}
	}
	return nil
}

// termwise applies an operation to the coefficients of f and g, the shorter of which is continued with zeros.
// The result may have trailing zeros.
func termwise(p uint64, f, g []uint64, op func(p, a, b uint64) (uint64, api.Errno)) []uint64 {
	result := make([]uint64, max(len(f), len(g)))
	for i := range result {
		// Both coefficients are field elements, for which no operation returns an error.
		result[i], _ = op(p, term(f, i), term(g, i))
	}
	return result
}

// term returns the coefficient of x to the power i.
func term(f []uint64, i int) uint64 {
	if i >= len(f) {
		return 0
	}
	return f[i]
}

// value returns the value of f, which may have trailing zeros, at x.
//
// This and the other loops over products compute with field elements directly. A function of field would test
// the prime for each product; and as field elements have at most 17 bits, nothing overflows.
func value(p uint64, f []uint64, x uint64) uint64 {
	sum := uint64(0)
	for _, c := range slices.Backward(f) {
		sum = (sum*x + c) % p
	}
	return sum
}

// plus returns f + k * g, which is new memory. Both f and g may have trailing zeros.
func plus(p uint64, f []uint64, k uint64, g []uint64) []uint64 {
	sum := make([]uint64, max(len(f), len(g)))
	copy(sum, f)
	for i, c := range g {
		sum[i] = (sum[i] + k*c) % p
	}
	return trim(sum)
}

// product returns the product of f and g.
func product(p uint64, f, g []uint64) []uint64 {
	if len(f) == 0 || len(g) == 0 {
		return nil
	}
	sum := make([]uint64, len(f)+len(g)-1)
	for i, a := range f {
		for j, b := range g {
			sum[i+j] = (sum[i+j] + a*b) % p
		}
	}
	return sum
}

// divide returns the quotient and the remainder of f and g, which is not zero.
func divide(p uint64, f, g []uint64) ([]uint64, []uint64) {
	rest := slices.Clone(f)
	if len(f) < len(g) {
		return nil, rest
	}
	quotient := make([]uint64, len(f)-len(g)+1)
	lead := inverse(p, g[len(g)-1])
	for shift := range slices.Backward(quotient) {
		k := rest[shift+len(g)-1] * lead % p
		quotient[shift] = k
		for i, c := range g {
			rest[shift+i] = (rest[shift+i] + (p-k)*c) % p
		}
	}
	return quotient, trim(rest)
}

// inverse returns the inverse of a, which is not 0.
func inverse(p, a uint64) uint64 {
	result, _ := field.Inv(p, a)
	return result
}

// linear returns the polynomial x - root.
func linear(p, root uint64) []uint64 {
	return []uint64{(p - root) % p, 1}
}

// distance returns the product of the differences of x and the elements of xs other than the one with index i.
func distance(p, x uint64, xs []uint64, i int) uint64 {
	result := uint64(1)
	for j, other := range xs {
		if j != i {
			result = result * (x + p - other) % p
		}
	}
	return result
}

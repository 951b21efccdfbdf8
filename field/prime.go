package field

import "junto/api"

// Is reports whether p is a prime number from 3 to MaxPrime.
func Is(p uint64) bool {
	if p < 3 || p > api.MaxPrime || p%2 == 0 {
		return false
	}
	if p < 256 {
		return !hasDivisor(uint32(p))
	}
	return !hasSmallFactor(uint32(p))
}

// hasDivisor reports whether an odd number has a divisor other than 1 and itself.
func hasDivisor(n uint32) bool {
	for d := uint32(3); d*d <= n; d += 2 {
		if n%d == 0 {
			return true
		}
	}
	return false
}

// hasSmallFactor reports whether an odd prime below 256 divides n. An odd composite number up to MaxPrime
// always has such a factor, because MaxPrime is smaller than 257 * 257.
//
// Every operation first asks whether its modulus is a prime, so this is written for speed: a test for
// divisibility by a constant needs no division.
func hasSmallFactor(n uint32) bool {
	return n%3 == 0 || n%5 == 0 || n%7 == 0 || n%11 == 0 || n%13 == 0 || n%17 == 0 ||
		n%19 == 0 || n%23 == 0 || n%29 == 0 || n%31 == 0 || n%37 == 0 || n%41 == 0 || n%43 == 0 ||
		n%47 == 0 || n%53 == 0 || n%59 == 0 || n%61 == 0 || n%67 == 0 || n%71 == 0 || n%73 == 0 ||
		n%79 == 0 || n%83 == 0 || n%89 == 0 || n%97 == 0 || n%101 == 0 || n%103 == 0 || n%107 == 0 ||
		n%109 == 0 || n%113 == 0 || n%127 == 0 || n%131 == 0 || n%137 == 0 || n%139 == 0 || n%149 == 0 ||
		n%151 == 0 || n%157 == 0 || n%163 == 0 || n%167 == 0 || n%173 == 0 || n%179 == 0 || n%181 == 0 ||
		n%191 == 0 || n%193 == 0 || n%197 == 0 || n%199 == 0 || n%211 == 0 || n%223 == 0 || n%227 == 0 ||
		n%229 == 0 || n%233 == 0 || n%239 == 0 || n%241 == 0 || n%251 == 0
}

// valid reports whether p is a prime and all of l are field elements.
func valid(p uint64, l ...uint64) bool {
	if !Is(p) {
		return false
	}
	for _, x := range l {
		if x >= p {
			return false
		}
	}
	return true
}

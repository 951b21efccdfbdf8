package check

import "junto/api"

// isSetup reports whether s is a valid setup.
func isSetup(s api.Setup) bool {
	if s.N < 1 || s.N > api.MaxParties || !isPrime(s.P) || s.P <= uint64(s.N) {
		return false
	}
	// This asks whether N is at least 4T + 1, which may overflow.
	return s.T >= 0 && s.T <= (s.N-1)/4
}

// isPrime reports whether p is a prime number from 3 to MaxPrime.
func isPrime(p uint64) bool {
	if p < 3 || p > api.MaxPrime || p%2 == 0 {
		return false
	}
	for d := uint64(3); d*d <= p; d += 2 {
		if p%d == 0 {
			return false
		}
	}
	return true
}

// isParty reports whether a number of a program is a party.
func isParty(s api.Setup, number uint64) bool {
	return number >= 1 && number <= uint64(s.N)
}

package token

import (
	"strconv"

	"junto/api"
)

// The limits of numbers.
const (
	maxDigits = 10
	maxNumber = 1<<32 - 1
)

// Number returns the value of a number, or ErrForm if s does not consist of digits, or ErrLimit if there are too many of
// them or the value is too large.
func Number(s string) (uint64, api.Errno) {
	if s == "" || prefix(s, isDigit) != s {
		return 0, api.ErrForm
	}
	if len(s) > maxDigits {
		return 0, api.ErrLimit
	}
	n := uint64(0)
	for i := range len(s) {
		n = 10*n + uint64(s[i]-'0')
	}
	if n > maxNumber {
		return 0, api.ErrLimit
	}
	return n, api.OK
}

// Digits returns the decimal representation of n.
func Digits(n uint64) string {
	return strconv.FormatUint(n, 10)
}

package token

import (
	"strings"

	"junto/api"
)

// signs are the signs of one byte.
const signs = "()[]{},:;=<+-*&|^!"

// gap returns the number of bytes at the start of s that are blanks and comments.
func gap(s string) int {
	at := 0
	for {
		at += len(prefix(s[at:], isBlank))
		if !strings.HasPrefix(s[at:], "//") {
			return at
		}
		at += len(prefix(s[at:], func(b byte) bool { return b != '\n' }))
	}
}

// first returns the kind and the text of the token at the start of s.
func first(s string) (int, string, api.Errno) {
	switch {
	case s == "":
		return 0, "", api.ErrForm
	case isLetter(s[0]):
		name := prefix(s, func(b byte) bool { return isLetter(b) || isDigit(b) || b == '_' })
		if len(name) > api.MaxName {
			return 0, "", api.ErrLimit
		}
		return api.ToName, name, api.OK
	case isDigit(s[0]):
		number := prefix(s, isDigit)
		if _, e := Number(number); e != api.OK {
			return 0, "", e
		}
		return api.ToNumber, number, api.OK
	case strings.HasPrefix(s, "=="):
		return api.ToSign, "==", api.OK
	case strings.IndexByte(signs, s[0]) >= 0:
		return api.ToSign, s[:1], api.OK
	}
	return 0, "", api.ErrForm
}

// isToken reports whether s is a token of this kind.
func isToken(kind int, s string) bool {
	found, word, e := first(s)
	return e == api.OK && found == kind && word == s
}

// prefix returns the longest start of s whose bytes all satisfy the predicate.
func prefix(s string, holds func(b byte) bool) string {
	n := 0
	for n < len(s) && holds(s[n]) {
		n++
	}
	return s[:n]
}

func isBlank(b byte) bool {
	return b == ' ' || b == '\t' || b == '\r' || b == '\n'
}

func isLetter(b byte) bool {
	return 'a' <= b && b <= 'z'
}

func isDigit(b byte) bool {
	return '0' <= b && b <= '9'
}

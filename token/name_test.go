package token_test

import (
	"math/rand"
	"regexp"
	"slices"
	"strings"
	"testing"

	"junto/token"
)

// wholeName is the reference for names.
var wholeName = regexp.MustCompile(`^[a-z][a-z0-9_]{0,23}$`)

// names checks what IsName and IsReserved report.
func names(t *testing.T, s string, isName, isReserved bool) {
	t.Helper()
	if token.IsName(s) != isName || token.IsReserved(s) != isReserved {
		t.Errorf("%q: %t %t", s, token.IsName(s), token.IsReserved(s))
	}
}

// P8.4

func TestReservedNames(t *testing.T) {
	for _, s := range reservedNames {
		names(t, s, true, true)
		for _, c := range []string{"s", "_", "0", "9", "in"} {
			names(t, s+c, true, slices.Contains(reservedNames, s+c))
		}
		for _, c := range []string{" ", "\n", ";", "A", "\x00", "/", "//"} {
			names(t, s+c, false, false)
			names(t, c+s, false, false)
		}
		for i := 1; i < len(s); i++ {
			names(t, s[:i], true, slices.Contains(reservedNames, s[:i]))
			names(t, s[i:], true, slices.Contains(reservedNames, s[i:]))
		}
		names(t, strings.ToUpper(s), false, false)
		names(t, strings.ToUpper(s[:1])+s[1:], false, false)
	}
}

func TestOtherNames(t *testing.T) {
	for _, s := range []string{"a", "z", "az", "a0", "a9", "a_", "a__b", "mux", "sort", "secret", "len", "then", "while", "func", "true", "words", "x1", "y_2", strings.Repeat("a", 24), "a" + strings.Repeat("9", 23)} {
		names(t, s, true, false)
	}
	for _, s := range []string{"", " ", "_", "_a", "0", "0a", "9", "A", "aB", "a b", " a", "a ", "a-b", "a.b", "a'", "a\n", "a\x00", "\x00", "ä", "aä", "é", "\xff", "a\xff", "=", "a=", "//", "a//", "{", "`", "a`", "a{", "@",
		strings.Repeat("a", 25), "a" + strings.Repeat("_", 24), strings.Repeat("in", 13), strings.Repeat("a", 100000)} {
		names(t, s, false, false)
	}
}

func TestNamesAtRandom(t *testing.T) {
	for a := range 256 {
		for b := range 256 {
			s := string([]byte{byte(a), byte(b)})
			names(t, s[:1], wholeName.MatchString(s[:1]), false)
			names(t, s, wholeName.MatchString(s) && b != '\n', slices.Contains(reservedNames, s))
		}
	}
	random := rand.New(rand.NewSource(85))
	for range 20000 {
		s := from(random, "abz09_", random.Intn(28))
		names(t, s, wholeName.MatchString(s), false)
	}
	for range 20000 {
		s := from(random, "inoutforalet", random.Intn(5))
		names(t, s, wholeName.MatchString(s), slices.Contains(reservedNames, s))
	}
}

package token_test

import (
	"math"
	"math/rand"
	"strconv"
	"strings"
	"testing"

	"junto/api"
	"junto/token"
)

// values checks what Number returns.
func values(t *testing.T, s string, want uint64, wantError api.Errno) {
	t.Helper()
	if n, e := token.Number(s); n != want || e != wantError {
		t.Errorf("Number(%q) is %d with error %d, not %d with error %d", s, n, e, want, wantError)
	}
}

// P8.3

func TestNumber(t *testing.T) {
	for n := range uint64(12000) {
		s := strconv.FormatUint(n, 10)
		for len(s) <= 10 {
			values(t, s, n, api.OK)
			s = "0" + s
		}
		values(t, s, 0, api.ErrLimit)
	}
	for i := range uint64(3000) {
		values(t, strconv.FormatUint(1<<32-1-i, 10), 1<<32-1-i, api.OK)
		values(t, strconv.FormatUint(1<<32+i, 10), 0, api.ErrLimit)
	}
	random := rand.New(rand.NewSource(83))
	for range 20000 {
		s := from(random, "0123456789", 1+random.Intn(12))
		if n, e := strconv.ParseUint(s, 10, 64); e == nil && len(s) <= 10 && n <= 1<<32-1 {
			values(t, s, n, api.OK)
		} else {
			values(t, s, 0, api.ErrLimit)
		}
	}
}

func TestNumberErrors(t *testing.T) {
	for _, s := range []string{
		"9999999999", "4294967296", "5000000000", "00000000000", "00000000007", "04294967295", "12345678901",
		"18446744073709551616", "18446744073709551617", "18446744078004518913", strings.Repeat("0", 100), strings.Repeat("9", 100000),
	} {
		values(t, s, 0, api.ErrLimit)
		// Whether all bytes are digits is checked first.
		for _, b := range []string{" ", "a", "_", ".", "-", "\x00", "\xff", "٣"} {
			values(t, s+b, 0, api.ErrForm)
			values(t, b+s, 0, api.ErrForm)
			values(t, s[:5]+b+s[5:], 0, api.ErrForm)
		}
	}
	for _, s := range []string{"", " ", "a", "1a", "a1", "+1", "-1", " 1", "1 ", "1\n", "1_000", "0x1f", "1e3", "1.", "0b1", "٣", "１", "1/", "1:", "/", ":", "//"} {
		values(t, s, 0, api.ErrForm)
	}
	for i := range 256 {
		if b := string([]byte{byte(i)}); b < "0" || b > "9" {
			values(t, b, 0, api.ErrForm)
			values(t, "1"+b, 0, api.ErrForm)
			values(t, b+"1", 0, api.ErrForm)
		}
	}
}

// manyNumbers returns numbers of all lengths, those about the powers of 2 and 10 among them.
func manyNumbers() []uint64 {
	random := rand.New(rand.NewSource(84))
	l := []uint64{math.MaxUint64}
	for n := uint64(1); n <= math.MaxUint64/10; n *= 10 {
		l = append(l, n-1, n, n+1, 9*n)
	}
	for i := range 64 {
		l = append(l, 1<<i-1, 1<<i, 1<<i+1)
		for range 200 {
			l = append(l, random.Uint64()>>i)
		}
	}
	for n := range uint64(2000) {
		l = append(l, n)
	}
	return l
}

func TestDigits(t *testing.T) {
	for _, n := range manyNumbers() {
		s := token.Digits(n)
		if len(s) == 0 || len(s) > 20 || s[0] == '0' && s != "0" {
			t.Error(n, s)
		}
		value := uint64(0)
		for i := range len(s) {
			if s[i] < '0' || s[i] > '9' {
				t.Error(n, s)
			}
			value = 10*value + uint64(s[i]-'0')
		}
		if value != n {
			t.Error(n, s)
		}
	}
	for n, want := range map[uint64]string{0: "0", 7: "7", 10: "10", 1 << 32: "4294967296", math.MaxUint64: "18446744073709551615"} {
		if s := token.Digits(n); s != want {
			t.Error(n, s)
		}
	}
}

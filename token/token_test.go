package token_test

import (
	"math"
	"slices"
	"strings"
	"testing"

	"junto/api"
	"junto/token"
)

// P8.2

// kinds are all valid kinds and some that are not.
var kinds = []int{math.MinInt, -1, 0, api.ToName, api.ToNumber, api.ToSign, 4, 1<<32 + 1, math.MaxInt}

// noTokens are texts that are no tokens of any kind.
func noTokens() []string {
	return []string{
		"", " ", "\n", "//", "//a", "/", "A", "aA", "Aa", "_", "_a", "a b", "a ", " a", "a//", "a\n", "a-b", "a.", "a\x00", "ä", "aä", "1a", "1 ", " 1", "1_",
		"-1", "+1", "1.0", "0x1", "===", "= =", "==\n", " =", "<=", "!=", "()", "[]", ":=", "||", "&&", "=/", "\"", ">", "\xff", "=\xff",
		strings.Repeat("a", 25), "a" + strings.Repeat("0", 24), strings.Repeat("a", 30000),
		"4294967296", "9999999999", "00000000000", "04294967295", "18446744073709551617", strings.Repeat("0", 30000), "١",
	}
}

// tokenTexts are texts of tokens of all kinds.
func tokenTexts() []string {
	return slices.Concat(signs, reservedNames, []string{
		"a", "z", "a0", "z9_", "a_", "mux", "x1y2", "inn", strings.Repeat("a", 24), "a" + strings.Repeat("_", 23),
		"0", "9", "00", "007", "4294967295", "0000000000", "0999999999",
	})
}

func TestCheck(t *testing.T) {
	for _, kind := range kinds {
		for _, s := range tokenTexts() {
			want := api.ErrForm
			if kind == kindOf(s) {
				want = api.OK
			}
			for _, at := range []int{0, 1, 19999, 20000, 1 << 40, math.MaxInt} {
				if e := token.Check(api.Token{Kind: kind, Text: s, At: at}); e != want {
					t.Error(kind, s, at, e)
				}
			}
			for _, at := range []int{-1, -20000, math.MinInt} {
				if e := token.Check(api.Token{Kind: kind, Text: s, At: at}); e != api.ErrForm {
					t.Error(kind, s, at, e)
				}
			}
		}
		for _, s := range noTokens() {
			for _, at := range []int{-1, 0, 1} {
				if e := token.Check(api.Token{Kind: kind, Text: s, At: at}); e != api.ErrForm {
					t.Errorf("%d %q %d %d", kind, s, at, e)
				}
			}
		}
	}
	if e := token.Check(api.Token{}); e != api.ErrForm {
		t.Error(e)
	}
}

// All texts of one or two bytes, compared with the reference.
func TestCheckShort(t *testing.T) {
	checks := func(s string) {
		k, e := found(s)
		isToken := e == api.OK && k.Text == s
		for kind := range 5 {
			want := api.ErrForm
			if isToken && kind == k.Kind {
				want = api.OK
			}
			if e := token.Check(api.Token{Kind: kind, Text: s}); e != want {
				t.Errorf("%d %q %d", kind, s, e)
			}
		}
	}
	for a := range 256 {
		checks(string([]byte{byte(a)}))
		for b := range 256 {
			checks(string([]byte{byte(a), byte(b)}))
		}
	}
}

func TestWrite(t *testing.T) {
	writes(t, nil, "", api.OK)
	writes(t, []api.Token{}, "", api.OK)
	for _, s := range tokenTexts() {
		writes(t, tokensOf(s), s, api.OK)
		writes(t, tokensOf(s, s), s+" "+s, api.OK)
		writes(t, tokensOf("out", s, ";"), "out "+s+" ;", api.OK)
	}
	writes(t, tokensOf(tokenTexts()...), strings.Join(tokenTexts(), " "), api.OK)
	writes(t, read("let a=b==3;// x").l, "let a = b == 3 ;", api.OK)
	writes(t, read("a//b\n  [ 007\t]").l, "a [ 007 ]", api.OK)
	// The offsets do not matter.
	writes(t, []api.Token{{Kind: api.ToSign, Text: "=", At: math.MaxInt}, {Kind: api.ToSign, Text: "=", At: 3}, {Kind: api.ToName, Text: "in", At: 3}}, "= = in", api.OK)
}

func TestWriteErrors(t *testing.T) {
	good := tokensOf("let", "a", "=", "12", ";")
	for i := range good {
		for _, bad := range badTokens(good[i]) {
			writes(t, slices.Concat(good[:i], []api.Token{bad}, good[i+1:]), "", api.ErrForm)
			writes(t, append(slices.Clone(good), bad), "", api.ErrForm)
			writes(t, []api.Token{bad}, "", api.ErrForm)
		}
	}
}

// badTokens returns tokens that differ from a good one and are invalid.
func badTokens(good api.Token) []api.Token {
	var l []api.Token
	for _, at := range []int{-1, math.MinInt} {
		l = append(l, api.Token{Kind: good.Kind, Text: good.Text, At: at})
	}
	for _, kind := range kinds {
		if kind != good.Kind {
			l = append(l, api.Token{Kind: kind, Text: good.Text})
		}
	}
	for _, s := range noTokens() {
		l = append(l, api.Token{Kind: good.Kind, Text: s})
	}
	return l
}

func TestWriteLimits(t *testing.T) {
	name := strings.Repeat("a", 24)
	for _, x := range []struct {
		l     []api.Token
		bytes int
	}{
		{slices.Repeat(tokensOf(";"), 10000), 19999},
		{append(slices.Repeat(tokensOf(";"), 9999), tokensOf("==")...), 20000},
		{append(slices.Repeat(tokensOf(";"), 9998), tokensOf("==", "10")...), 20001},
		{slices.Repeat(tokensOf(";"), 10001), 20001},
		{slices.Repeat(tokensOf(name), 800), 19999},
		{append(slices.Repeat(tokensOf(name), 799), tokensOf("a", strings.Repeat("b", 23))...), 20000},
		{append(slices.Repeat(tokensOf(name), 799), tokensOf("a", name)...), 20001},
		{slices.Repeat(tokensOf(";"), 20000), 39999},
		{slices.Repeat(tokensOf(name), 20000), 499999},
	} {
		want := strings.Join(textsOf(x.l), " ")
		if len(want) != x.bytes {
			t.Fatal(len(want), x.bytes)
		}
		text, e := token.Write(x.l)
		if x.bytes <= 20000 && (text != want || e != api.OK) || x.bytes > 20000 && (text != "" || e != api.ErrLimit) {
			t.Error(x.bytes, len(text), e)
		}
	}
}

// The number of tokens is checked before the tokens, and the tokens before the length of the result.
func TestWriteOrder(t *testing.T) {
	bad := api.Token{Kind: api.ToSign, Text: "/"}
	for _, l := range [][]api.Token{slices.Repeat(tokensOf(";"), 20000), slices.Repeat(tokensOf(strings.Repeat("a", 24)), 20000)} {
		for _, i := range []int{0, 1, 10000, 19999} {
			wrong := slices.Clone(l)
			wrong[i] = bad
			if text, e := token.Write(wrong); text != "" || e != api.ErrForm {
				t.Error(i, len(text), e)
			}
			if text, e := token.Write(append(wrong, bad)); text != "" || e != api.ErrLimit {
				t.Error(i, len(text), e)
			}
		}
	}
	for _, n := range []int{20001, 100000} {
		for _, k := range []api.Token{{}, bad, {Kind: api.ToSign, Text: ";"}, {Kind: api.ToSign, Text: ";", At: -1}} {
			if text, e := token.Write(slices.Repeat([]api.Token{k}, n)); text != "" || e != api.ErrLimit {
				t.Error(n, k, len(text), e)
			}
		}
	}
	if text, e := token.Write(slices.Repeat([]api.Token{{}}, 20000)); text != "" || e != api.ErrForm {
		t.Error(len(text), e)
	}
}

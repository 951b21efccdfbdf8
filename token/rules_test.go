package token_test

import (
	"math"
	"slices"
	"strings"
	"testing"

	"junto/api"
	"junto/token"
)

// Rule 4: arguments are neither modified nor shared.

func TestMemory(t *testing.T) {
	l := read("let a = b == 3;").l
	before := slices.Clone(l)
	text, _ := token.Write(l)
	if !slices.Equal(l, before) {
		t.Error(l)
	}
	again := read("let a = b == 3;").l
	for i := range l {
		l[i] = api.Token{Kind: 9, Text: "/", At: -1}
	}
	_ = append(l[:2], l...)
	if !slices.Equal(again, before) || !read("let a = b == 3;").equals(answer{before, 0, api.OK}) || text != "let a = b == 3 ;" {
		t.Error(again, text)
	}
	if !token.IsReserved("let") || token.IsReserved("a") {
		t.Error("reserved names")
	}
}

// The document's P1 and P2: all calls end without a panic, and twice with the same results.

func TestAnyArguments(t *testing.T) {
	texts := slices.Concat(noTokens(), tokenTexts(), []string{
		"let a=b==3;// x", "a/", "a //", "1_", strings.Repeat("/", 20000), strings.Repeat("/", 20001), strings.Repeat("=", 20000),
		strings.Repeat("a1 ", 100000), strings.Repeat("\x00", 100), strings.Repeat("9", 1<<20), strings.Repeat("é", 9999),
	})
	for _, s := range texts {
		if a := read(s); !a.equals(read(s)) || a.e != api.OK && len(a.l) > 0 || a.e == api.OK && a.at != 0 || a.at < 0 || a.at > len(s) {
			t.Errorf("%q: %v", s, a)
		}
		n, e := token.Number(s)
		if m, f := token.Number(s); m != n || f != e || e != api.OK && n != 0 {
			t.Errorf("%q: %d %d", s, n, e)
		}
		if token.IsName(s) != token.IsName(s) || token.IsReserved(s) != token.IsReserved(s) || token.IsReserved(s) && !token.IsName(s) {
			t.Errorf("%q", s)
		}
		for _, kind := range kinds {
			for _, at := range []int{math.MinInt, -1, 0, math.MaxInt} {
				k := api.Token{Kind: kind, Text: s, At: at}
				text, e := token.Write([]api.Token{k})
				if again, f := token.Write([]api.Token{k}); again != text || f != e || e != token.Check(k) || e != api.OK && text != "" {
					t.Errorf("%q: %q %d", s, text, e)
				}
			}
		}
	}
}

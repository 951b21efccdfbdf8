package token_test

import (
	"math/rand"
	"slices"
	"strings"
	"testing"

	"junto/api"
	"junto/token"
)

// P8.5

// randomTokens returns tokens at offsets that do not matter.
func randomTokens(random *rand.Rand, n int) []api.Token {
	var l []api.Token
	for range n {
		k := tokensOf(randomWord(random))[0]
		k.At = random.Intn(1 << 20)
		l = append(l, k)
	}
	return l
}

// same reports whether the tokens are equal except for their offsets.
func same(a, b []api.Token) bool {
	return slices.EqualFunc(a, b, func(a, b api.Token) bool { return a.Kind == b.Kind && a.Text == b.Text })
}

func TestReadOfWrite(t *testing.T) {
	random := rand.New(rand.NewSource(86))
	lists := [][]api.Token{nil, tokensOf("=", "="), tokensOf("=", "==", "="), tokensOf("let", "in", "3", "3", "a"), tokensOf(tokenTexts()...)}
	for i := range 3000 {
		lists = append(lists, randomTokens(random, i%60))
	}
	for _, l := range lists {
		text, e := token.Write(l)
		a := read(text)
		if e != api.OK || a.e != api.OK || !same(a.l, l) {
			t.Fatalf("Read(%q) is %v, not %v", text, a, l)
		}
		for i, k := range a.l {
			// Single blanks separate the tokens, so that the offsets are determined.
			if i == 0 && k.At != 0 || i > 0 && k.At != a.l[i-1].At+len(a.l[i-1].Text)+1 {
				t.Fatal(text, a.l)
			}
		}
	}
}

// randomGap returns blanks and comments. A comment ends with its line, so that a token may follow.
func randomGap(random *rand.Rand) string {
	var gap strings.Builder
	for range random.Intn(4) {
		gap.WriteString([]string{" ", "\t", "\r", "\n", "//\n", "// let a = 3;\r\n", "//// / \xff\n"}[random.Intn(7)])
	}
	return gap.String()
}

// needsGap reports whether b would become a part of a if it followed immediately.
func needsGap(a, b string) bool {
	joined, e := found(a + b)
	return e != api.OK || joined.Text != a
}

func TestWriteOfRead(t *testing.T) {
	random := rand.New(rand.NewSource(87))
	for range 5000 {
		l := randomTokens(random, random.Intn(30))
		var text strings.Builder
		text.WriteString(randomGap(random))
		for i := range l {
			if i > 0 {
				gap := randomGap(random)
				if gap == "" && needsGap(l[i-1].Text, l[i].Text) {
					gap = "\n"
				}
				text.WriteString(gap)
			}
			l[i].At = text.Len()
			text.WriteString(l[i].Text)
		}
		text.WriteString([]string{"", " ", "\n", "//", "//a", " // b\n"}[random.Intn(6)])
		a := read(text.String())
		if !a.equals(answer{l, 0, api.OK}) {
			t.Fatalf("Read(%q) is %v, not %v", text.String(), a, l)
		}
		writes(t, a.l, strings.Join(textsOf(l), " "), api.OK)
	}
}

// Whatever Read accepts, its tokens are valid, and only blanks and comments lie before, between and after them.
func TestBetween(t *testing.T) {
	random := rand.New(rand.NewSource(88))
	accepted := 0
	for range 30000 {
		text := from(random, "ab19_=<;//\n\r ", random.Intn(30))
		a := read(text)
		if a.e != api.OK {
			continue
		}
		accepted++
		end := 0
		for _, k := range append(a.l, api.Token{At: len(text)}) {
			if k.At < end || gapForm.FindString(text[end:k.At]) != text[end:k.At] {
				t.Fatalf("Read(%q) is %v", text, a)
			}
			if k.Text != "" && (token.Check(k) != api.OK || !strings.HasPrefix(text[k.At:], k.Text)) {
				t.Fatalf("Read(%q) is %v", text, a)
			}
			end = k.At + len(k.Text)
		}
		written, e := token.Write(a.l)
		if again := read(written); e != api.OK || again.e != api.OK || !same(a.l, again.l) {
			t.Fatalf("Write of Read(%q) is %q", text, written)
		}
	}
	if accepted < 3000 {
		t.Error(accepted)
	}
}

// P8.6

func TestNumberOfDigits(t *testing.T) {
	for _, n := range manyNumbers() {
		if n <= 4294967295 {
			values(t, token.Digits(n), n, api.OK)
		} else {
			values(t, token.Digits(n), 0, api.ErrLimit)
		}
	}
}

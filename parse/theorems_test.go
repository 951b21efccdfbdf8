package parse_test

import (
	"math/rand"
	"slices"
	"strings"
	"testing"

	"junto/api"
	"junto/parse"
)

// P9.5

func TestParseOfText(t *testing.T) {
	for i := range 4000 {
		n := randomProgram(int64(i))
		text, e := parse.Text(n)
		if e == api.ErrLimit && len(canonical(wordsOf(n, nil))) > 20000 {
			continue
		}
		if e != api.OK {
			t.Fatal(n, e)
		}
		parses(t, text, n)
	}
	for _, n := range []api.Node{programOf(), deep(60), deepBlocks(59), everything(t)} {
		text, e := parse.Text(n)
		if e != api.OK {
			t.Error(n, e)
		}
		parses(t, text, n)
	}
}

// At the limit of the depth, the canonical form has as many parentheses as it can have.
func TestParseOfDeepText(t *testing.T) {
	sum, index, call := a, a, a
	for range 57 {
		sum, call = binaryOf(b, "-", sum), callOf("f", b, call)
	}
	for i := range 57 {
		if i%2 == 0 {
			index = unaryOf("!", index)
		} else {
			index = itemOf(index, b)
		}
	}
	for _, e := range []api.Node{sum, index, call} {
		n := programOf(setOf("x", e))
		if parse.Deep(n) != 60 {
			t.Error(parse.Deep(n))
		}
		text, e := parse.Text(n)
		if e != api.OK {
			t.Error(text, e)
		}
		parses(t, text, n)
	}
}

// If a text can be parsed, so can its canonical form, with the same tree and the same canonical form.
func TestTextOfParse(t *testing.T) {
	random := rand.New(rand.NewSource(95))
	accepted := 0
	for i := 0; accepted < 1000; i++ {
		words := changed(plain(wordsOf(randomProgram(int64(i)), random)), random)
		text := laid(words, random)
		n, _, e := parse.Parse(text)
		if e != api.OK {
			continue
		}
		form, e := parse.Text(n)
		if e == api.ErrLimit {
			continue
		}
		accepted++
		parses(t, form, n)
		prints(t, n, form)
	}
}

// P9.6

func TestLayout(t *testing.T) {
	random := rand.New(rand.NewSource(96))
	for i := range 4000 {
		n := randomProgram(int64(i))
		words := wordsOf(n, random)
		if len(words) > 2000 {
			continue
		}
		parses(t, laid(words, random), n)
		parses(t, laid(words, random), n)
		parses(t, strings.Join(plain(words), "\n"), n)
	}
}

// Parentheses are added around each expression of a kind, in each position.
func TestParentheses(t *testing.T) {
	for _, x := range []string{
		"let x = @;", "x = @;", "x[@] = y;", "x[y] = @;", "if @ {}", "for i = @ to 1 {}", "for i = 1 to @ {}", "out @ to all;", "def f() { return @; }", "x = f(@, y);", "x = f(y, @);",
		"x = [@, y];", "x = [y, @];", "x = @[y];", "x = y[@];", "x = -@;", "x = !@;", "x = (@);", "x = @ | y;", "x = y | @;", "x = @ ^ y;", "x = y ^ @;", "x = @ & y;", "x = y & @;",
		"x = @ == y;", "x = y == @;", "x = @ < y;", "x = y < @;", "x = @ + y;", "x = y + @;", "x = @ - y;", "x = y - @;", "x = @ * y;", "x = y * @;",
	} {
		for _, e := range []string{"a", "1", "f(a)", "num(1)", "[a]", "a[1]", "(-a)", "(!a)[1]", "(a | b)", "(a < b)", "(a * b)"} {
			n, _, fault := parse.Parse(strings.ReplaceAll(x, "@", e))
			if fault != api.OK {
				t.Fatal(x, e, fault)
			}
			for _, enclosed := range []string{"(" + e + ")", "(( " + e + " ) )", "(//\n" + e + "\n)"} {
				parses(t, strings.ReplaceAll(x, "@", enclosed), n)
			}
		}
	}
}

// Blanks and comments between any two tokens do not matter, and neither does their absence where none are needed.
func TestGaps(t *testing.T) {
	n := everything(t)
	words := plain(wordsOf(n, nil))
	for i := range len(words) + 1 {
		for _, gap := range []string{"", " ", "\t\r\n", "//\n", " // ( \xff\n", "//;\n//}\n\n"} {
			text := strings.Join(slices.Concat(words[:i], []string{gap}, words[i:]), " ")
			parses(t, text, n)
		}
	}
	text := ""
	for i, w := range words {
		if i > 0 && sticks(words[i-1], w) {
			text += " "
		}
		text += w
	}
	parses(t, text, n)
}

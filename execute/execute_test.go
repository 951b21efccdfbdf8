package execute_test

import (
	"fmt"
	"slices"
	"strconv"
	"strings"
	"testing"

	"junto/api"
	"junto/check"
	"junto/execute"
	"junto/parse"
)

// recorder computes with texts of values, and notes all calls whose order or number matters.
type recorder struct {
	t     *testing.T
	lines []string
	reads int
}

// kind returns the text of a type, without whether it is secret.
func kind(t api.Type) string {
	text := []string{"", "num", "bit", "word" + strconv.Itoa(t.Bits)}[t.Kind]
	if t.Items > 0 {
		text += "[" + strconv.Itoa(t.Items) + "]"
	}
	return text
}

func (r *recorder) note(l ...any) {
	r.lines = append(r.lines, strings.TrimSpace(fmt.Sprintln(l...)))
}

func (r *recorder) Number(n uint64) string {
	return strconv.Itoa(int(n))
}

// Known must be called for what is made of numbers only. All that is not a number itself is 1.
func (r *recorder) Known(x string) uint64 {
	if strings.ContainsRune(x, 'x') {
		r.t.Error("Known of", x)
	}
	n, e := strconv.Atoi(x)
	if e != nil {
		return 1
	}
	return uint64(n)
}

func (r *recorder) In(t api.Type) string {
	r.reads++
	r.note("in", kind(t))
	return "x" + strconv.Itoa(r.reads)
}

func (r *recorder) Out(to []int, t api.Type, l []string) {
	r.note("out", kind(t), l, "to", to)
}

func (r *recorder) Unary(sign string, t api.Type, x string) string {
	return sign + kind(t) + "(" + x + ")"
}

func (r *recorder) Binary(sign string, t api.Type, x, y string) string {
	return kind(t) + "(" + x + sign + y + ")"
}

func (r *recorder) Bit(x string, i int) string {
	return x + "." + strconv.Itoa(i)
}

func (r *recorder) Convert(from, to api.Type, x string) string {
	return kind(to) + "(" + kind(from) + " " + x + ")"
}

func (r *recorder) Pick(c, x, y string) string {
	r.note("pick", c, x, y)
	return "p(" + c + "," + x + "," + y + ")"
}

func (r *recorder) Sort(t api.Type, l []string) []string {
	r.note("sort", kind(t), l)
	l = slices.Clone(l)
	slices.Reverse(l)
	return l
}

// recorded returns what a program that is accepted notes, the number of its nodes, and its error.
func recorded(t *testing.T, text string) ([]string, int, api.Errno) {
	t.Helper()
	n, at, e := parse.Parse(text)
	if e != api.OK {
		t.Fatal(text, at, e)
	}
	if e := check.Check(api.Setup{P: 257, N: 5, T: 1}, n); e != api.OK {
		t.Fatal(text, e)
	}
	r := &recorder{t: t}
	nodes, e := execute.Program(n, r)
	return r.lines, nodes, e
}

// notes checks what a program notes.
func notes(t *testing.T, text string, want ...string) {
	t.Helper()
	if l, _, e := recorded(t, text); e != api.OK || !slices.Equal(l, want) {
		t.Errorf("%s: %q with error %d, not %q", text, l, e, want)
	}
}

func TestExpressions(t *testing.T) {
	notes(t, "out 65538 to all; out -2 + 3 * num(4) to 1, 2;", "out num [65538] to []", "out num [num(-num(2)+num(3*num(num 4)))] to [1 2]")
	notes(t, "in w: word 3 from 1; in b: bit from 1; out [!w, w & word(3, b)] to all; out w[2] ^ (w < w) to 3;", "in word3", "in bit",
		"out word3[2] [!word3(x1) word3(x1&word3(bit x2))] to []", "out bit [bit(x1.2^word3(x1<x1))] to [3]")
	notes(t, "out bit(7) to all; out [num(bit(1)), num(word(5, 2)), len([1, 2]), len(word(5, 2))] to all; out secret([1, 2]) to all;",
		"out bit [bit(num 7)] to []", "out num[4] [num(bit bit(num 1)) num(word5 word5(num 2)) 2 5] to []", "out num[2] [1 2] to []")
	notes(t, "in v: word 2[3] from 1; let w = sort(v); out w to all; out v[0] to all; out w[0][1] to all;", "in word2", "in word2", "in word2", "sort word2 [x1 x2 x3]", "out word2[3] [x3 x2 x1] to []", "out word2 [x1] to []", "out bit [x3.1] to []")
	notes(t, "in c: bit from 1; out mux(c, [1, 2], [3, 4]) to all; out mux(bit(0), c, bit(1)) to all;", "in bit", "pick x1 1 3", "pick x1 2 4", "out num[2] [p(x1,1,3) p(x1,2,4)] to []", "pick bit(num 0) x1 bit(num 1)", "out bit [p(bit(num 0),x1,bit(num 1))] to []")
}

func TestItems(t *testing.T) {
	notes(t, "in a: num[2] from 1; let b = a; b[1] = 5; a = [b[1], 6]; out a to all; out b to 2;", "in num", "in num", "out num[2] [5 6] to []", "out num[2] [x1 5] to [2]")
	notes(t, "for i = 2 to 3 { for j = i to 3 { out [i, j] to all; } }", "out num[2] [2 2] to []", "out num[2] [2 3] to []", "out num[2] [3 3] to []")
	notes(t, "if bit(1) { out 1 to all; } else { out 2 to all; }", "out num [1] to []")
	notes(t, "def f(x: num) { x = x + 1; return x; } in a: num from 1; out f(a) * f(2) to all;", "in num", "out num [num(num(x1+1)*num(2+1))] to []")
}

// After an if with a secret condition there is one Pick for each element of the variables that have been assigned to and
// existed before, in the order of their names.
func TestPicks(t *testing.T) {
	start := "in c: bit from 1; let b = secret(1); let a = secret([2, 3]); let d = secret(4);"
	notes(t, start+"if c { let x = 5; x = 6; } else { }", "in bit")
	notes(t, start+"if c { d = 5; a[1] = 6; } else { d = d; }", "in bit", "pick x1 2 2", "pick x1 6 3", "pick x1 5 4")
	notes(t, start+"if c { } else { b = d; let x = b; x = x + 1; d = x; d = d + 2; }", "in bit", "pick x1 1 4", "pick x1 4 num(num(4+1)+2)")
	notes(t, start+"if c { b = 7; if !c { d = b; } b = 8; }", "in bit", "pick !bit(x1) 7 4", "pick x1 8 1", "pick x1 p(!bit(x1),7,4) 4")
	notes(t, start+"if c { let x = 1; if c { x = 2; } else { x = 3; } }", "in bit", "pick x1 2 3")
	notes(t, start+"def f(x: num) { let b = x; b = b + 1; x = b; return x; } if c { d = f(b); }", "in bit", "pick x1 num(1+1) 4")
	notes(t, start+"for i = 0 to 1 { if c { a[i] = i; } }", "in bit", "pick x1 0 2", "pick x1 3 3", "pick x1 p(x1,0,2) p(x1,0,2)", "pick x1 1 p(x1,3,3)")
}

func TestNodes(t *testing.T) {
	for text, want := range map[string]int{"": 0, "let a = 1 + 2;": 4, "for i = 1 to 3 { }": 6, "if secret(bit(1)) { let a = 1; }": 8} {
		if _, n, e := recorded(t, text); n != want || e != api.OK {
			t.Error(text, n, e)
		}
	}
}

// An error ends the execution.
func TestErrors(t *testing.T) {
	for _, x := range []struct {
		text string
		want api.Errno
		done int
	}{
		{"let a = [1]; out 1 to all; out a[1] to all; out 2 to all;", api.ErrRange, 1}, {"out 1 to all; out word(3, 1)[3] to all; out 2 to all;", api.ErrRange, 1}, {"let a = [1]; out 1 to all; a[1] = 2; out 2 to all;", api.ErrRange, 1},
		{"for i = 1 to 64 { for j = 1 to 64 { out i to all; } } out 1 to all; out 2 to all;", api.ErrLimit, 4096},
		{"out 1 to all; for i = 1 to 10000 { let a = [1,2,3,4,5,6,7,8,9,10,11,12,13,14,15,16,17,18,19,20,21,22,23,24,25,26,27,28,29,30]; } out 2 to all;", api.ErrLimit, 1},
	} {
		l, n, e := recorded(t, x.text)
		if len(l) != x.done || n != 0 || e != x.want {
			t.Error(x.text, len(l), n, e)
		}
	}
}

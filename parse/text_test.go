package parse_test

import (
	"slices"
	"strings"
	"testing"

	"junto/api"
	"junto/parse"
)

// P9.4

func TestTextOfExpressions(t *testing.T) {
	sum, minus := binaryOf(a, "+", b), unaryOf("-", a)
	for want, n := range map[string]api.Node{
		"0":                     numberOf(0),
		"42":                    numberOf(42),
		"4294967295":            numberOf(1<<32 - 1),
		"a":                     a,
		"a()":                   callOf("a"),
		"a(b)":                  callOf("a", b),
		"mux(a, (a + b), -a)":   callOf("mux", a, sum, minus),
		"word(4, a)":            callOf("word", numberOf(4), a),
		"num(bit(a))":           callOf("num", callOf("bit", a)),
		"[a]":                   listOf(a),
		"[a, (a + b), -a, [b]]": listOf(a, sum, minus, listOf(b)),
		"a[b]":                  itemOf(a, b),
		"a[b][c]":               itemOf(itemOf(a, b), c),
		"a[b[c]]":               itemOf(a, itemOf(b, c)),
		"a[(a + b)]":            itemOf(a, sum),
		"a[-a]":                 itemOf(a, minus),
		"(a + b)[c]":            itemOf(sum, c),
		"(-a)[c]":               itemOf(minus, c),
		"(-a)[b][c]":            itemOf(itemOf(minus, b), c),
		"(!-a)[b]":              itemOf(unaryOf("!", minus), b),
		"(-(a + b))[c]":         itemOf(unaryOf("-", sum), c),
		"(-(-a)[b])[c]":         itemOf(unaryOf("-", itemOf(minus, b)), c),
		"[a, b][0]":             itemOf(listOf(a, b), numberOf(0)),
		"1[0]":                  itemOf(numberOf(1), numberOf(0)),
		"a(b)[c]":               itemOf(callOf("a", b), c),
		"-a[b]":                 unaryOf("-", itemOf(a, b)),
		"!a":                    unaryOf("!", a),
		"--a":                   unaryOf("-", minus),
		"-1":                    unaryOf("-", numberOf(1)),
		"-(a + b)":              unaryOf("-", sum),
		"-[a]":                  unaryOf("-", listOf(a)),
		"(a + b)":               sum,
		"(-a - -a)":             binaryOf(minus, "-", minus),
		"((a + b) * c)":         binaryOf(sum, "*", c),
		"(a * (a + b))":         binaryOf(a, "*", sum),
		"((a | b) == (c < d))":  binaryOf(binaryOf(a, "|", b), "==", binaryOf(c, "<", d)),
		"((a & b) ^ !(a == b))": binaryOf(binaryOf(a, "&", b), "^", unaryOf("!", binaryOf(a, "==", b))),
		"(a[b] - a(b))":         binaryOf(itemOf(a, b), "-", callOf("a", b)),
		"(((a + b) + a) + b)":   binaryOf(binaryOf(sum, "+", a), "+", b),
	} {
		prints(t, programOf(letOf("x", n)), "let x = "+want+";\n")
		prints(t, programOf(setOf("x", n)), "x = "+want+";\n")
		prints(t, programOf(putOf("x", n, n)), "x["+want+"] = "+want+";\n")
		prints(t, programOf(outOf(n, 1)), "out "+want+" to 1;\n")
		prints(t, programOf(forOf("i", n, n, blockOf())), "for i = "+want+" to "+want+" {\n}\n")
		prints(t, programOf(ifOf(n, blockOf(), blockOf())), "if "+want+" {\n}\n")
		prints(t, programOf(defOf("f", nil, blockOf(), n)), "def f() {\n  return "+want+";\n}\n")
	}
}

func TestTextOfItems(t *testing.T) {
	num, word := typeOf(api.TyNum, 0, 0), typeOf(api.TyWord, 8, 4)
	set := setOf("a", numberOf(1))
	for want, n := range map[string]api.Node{
		"in x: num from 1;\n":                                        inOf("x", num, 1),
		"in x: num[1] from 0;\n":                                     inOf("x", typeOf(api.TyNum, 0, 1), 0),
		"in x: bit from 4294967295;\n":                               inOf("x", typeOf(api.TyBit, 0, 0), 1<<32-1),
		"in x: bit[32] from 1;\n":                                    inOf("x", typeOf(api.TyBit, 0, 32), 1),
		"in x: word 0 from 1;\n":                                     inOf("x", typeOf(api.TyWord, 0, 0), 1),
		"in x: word 16 from 1;\n":                                    inOf("x", typeOf(api.TyWord, 16, 0), 1),
		"in x: word 8[4] from 1;\n":                                  inOf("x", word, 1),
		"out a to all;\n":                                            outOf(a),
		"out a to 0;\n":                                              outOf(a, 0),
		"out a to 2, 1, 1;\n":                                        outOf(a, 2, 1, 1),
		"if a {\n  a = 1;\n}\n":                                      ifOf(a, blockOf(set), blockOf()),
		"if a {\n} else {\n  a = 1;\n}\n":                            ifOf(a, blockOf(), blockOf(set)),
		"if a {\n  a = 1;\n  a = 1;\n} else {\n  a = 1;\n}\n":        ifOf(a, blockOf(set, set), blockOf(set)),
		"for i = 0 to 1 {\n  a = 1;\n}\n":                            forOf("i", numberOf(0), numberOf(1), blockOf(set)),
		"for i = 0 to 1 {\n  if a {\n    a = 1;\n  }\n  a = 1;\n}\n": forOf("i", numberOf(0), numberOf(1), blockOf(ifOf(a, blockOf(set), blockOf()), set)),
		"if a {\n  if b {\n  } else {\n    a = 1;\n  }\n} else {\n  a = 1;\n}\n": ifOf(a, blockOf(ifOf(b, blockOf(), blockOf(set))), blockOf(set)),
		"def f() {\n  return a;\n}\n":                                            defOf("f", nil, blockOf(), a),
		"def f(a: num) {\n  return a;\n}\n":                                      defOf("f", []api.Node{argOf("a", num)}, blockOf(), a),
		"def f(a: word 8[4], b: num) {\n  a = 1;\n  return b;\n}\n":              defOf("f", []api.Node{argOf("a", word), argOf("b", num)}, blockOf(set), b),
		"def f() {\n  def g() {\n    return b;\n  }\n  return a;\n}\n":           defOf("f", nil, blockOf(defOf("g", nil, blockOf(), b)), a),
	} {
		prints(t, programOf(n), want)
		prints(t, programOf(n, n), want+want)
		prints(t, programOf(ifOf(a, blockOf(n), blockOf())), "if a {\n"+indented(want)+"}\n")
	}
	prints(t, programOf(), "")
}

// indented returns the lines with two more blanks each.
func indented(text string) string {
	return "  " + strings.ReplaceAll(strings.TrimSuffix(text, "\n"), "\n", "\n  ") + "\n"
}

// The examples of the chapter.
func TestTextOfExamples(t *testing.T) {
	for text, want := range map[string]string{
		"let a=b+c*-d[1]; out a to 1,2;":                                "let a = (b + (c * -d[1]));\nout a to 1, 2;\n",
		"in x: word 8[4] from 2; if x[0]<x[1] { let y = 1; } else {}":   "in x: word 8[4] from 2;\nif (x[0] < x[1]) {\n  let y = 1;\n}\n",
		"x = 007; // seven\nin y: num[0] from 001;":                     "x = 7;\nin y: num from 1;\n",
		"def f ( ) { return ( ( a ) ) ; } if ( a ) { } else { x=(1) ;}": "def f() {\n  return a;\n}\nif a {\n} else {\n  x = 1;\n}\n",
	} {
		n, _, e := parse.Parse(text)
		if e != api.OK {
			t.Error(text, e)
		}
		prints(t, n, want)
	}
}

// Random programs are compared with the reference for the layout.
func TestTextOfPrograms(t *testing.T) {
	for i := range 3000 {
		n := randomProgram(int64(i))
		if want := canonical(wordsOf(n, nil)); len(want) <= 20000 {
			prints(t, n, want)
		}
	}
}

func TestTextLimit(t *testing.T) {
	lets := slices.Repeat([]api.Node{letOf("a", numberOf(1))}, 1817)
	for bytes, last := range map[int]api.Node{
		19999: letOf("ab", numberOf(1)),
		20000: letOf("ab", numberOf(10)),
		20001: letOf("abc", numberOf(10)),
		20010: letOf(strings.Repeat("a", 13), numberOf(1)),
	} {
		text, e := parse.Text(programOf(append(slices.Clone(lets), last)...))
		if bytes <= 20000 && (len(text) != bytes || e != api.OK) || bytes > 20000 && (text != "" || e != api.ErrLimit) {
			t.Error(bytes, len(text), e)
		}
	}
	// A text may be parsed though its canonical form is too long.
	n, _, e := parse.Parse(strings.Repeat("a=1;", 5000))
	text, f := parse.Text(n)
	if e != api.OK || parse.Check(n) != api.OK || text != "" || f != api.ErrLimit {
		t.Error(e, brief(text), f)
	}
	// The errors of Check come first.
	long := programOf(slices.Repeat([]api.Node{letOf("a", numberOf(1))}, 9000)...)
	checks(t, "a long program", long, api.OK)
	if text, e := parse.Text(long); text != "" || e != api.ErrLimit {
		t.Error(brief(text), e)
	}
	long.Kids[8999].Num = 1
	checks(t, "a long program with a wrong node", long, api.ErrForm)
}

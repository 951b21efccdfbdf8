package parse_test

import (
	"math/rand"
	"slices"
	"strings"
	"testing"

	"junto/api"
	"junto/parse"
	"junto/token"
)

// P9.1: the table of the language, row by row.

func TestPrograms(t *testing.T) {
	for _, text := range []string{"", " ", "\n", "// let", " \t\r\n//\n"} {
		parses(t, text, programOf())
	}
	parses(t, "a=1;", programOf(setOf("a", numberOf(1))))
	parses(t, "let a=1;a=2;", programOf(letOf("a", numberOf(1)), setOf("a", numberOf(2))))
}

func TestInputs(t *testing.T) {
	for _, x := range []struct {
		text string
		kind api.Node
	}{
		{"num", typeOf(api.TyNum, 0, 0)},
		{"bit", typeOf(api.TyBit, 0, 0)},
		{"word 8", typeOf(api.TyWord, 8, 0)},
		{"word 0", typeOf(api.TyWord, 0, 0)},
		{"num[0]", typeOf(api.TyNum, 0, 0)},
		{"num[32]", typeOf(api.TyNum, 0, 32)},
		{"bit [ 7 ]", typeOf(api.TyBit, 0, 7)},
		{"word 16[4]", typeOf(api.TyWord, 16, 4)},
		{"word 4294967295[4294967295]", typeOf(api.TyWord, 1<<32-1, 1<<32-1)},
		{"word 007[010]", typeOf(api.TyWord, 7, 10)},
	} {
		parses(t, "in x: "+x.text+" from 2;", programOf(inOf("x", x.kind, 2)))
		parses(t, "def f(x: "+x.text+") { return 1; }", programOf(defOf("f", []api.Node{argOf("x", x.kind)}, blockOf(), numberOf(1))))
	}
	for text, party := range map[string]uint64{"0": 0, "1": 1, "013": 13, "4294967295": 1<<32 - 1} {
		parses(t, "in x: num from "+text+";", programOf(inOf("x", typeOf(api.TyNum, 0, 0), party)))
	}
}

func TestAssignments(t *testing.T) {
	parses(t, "let a = b;", programOf(letOf("a", b)))
	parses(t, "a = b;", programOf(setOf("a", b)))
	parses(t, "a[b] = c;", programOf(putOf("a", b, c)))
	parses(t, "a[b[c]] = d;", programOf(putOf("a", itemOf(b, c), d)))
	parses(t, "mux = sort; len[secret] = lets;", programOf(setOf("mux", nameOf("sort")), putOf("len", nameOf("secret"), nameOf("lets"))))
}

func TestBlocks(t *testing.T) {
	set := setOf("a", numberOf(1))
	parses(t, "if a {}", programOf(ifOf(a, blockOf(), blockOf())))
	parses(t, "if a {} else {}", programOf(ifOf(a, blockOf(), blockOf())))
	parses(t, "if a { a = 1; }", programOf(ifOf(a, blockOf(set), blockOf())))
	parses(t, "if a {} else { a = 1; a = 1; }", programOf(ifOf(a, blockOf(), blockOf(set, set))))
	parses(t, "if a {} if b {} else {}", programOf(ifOf(a, blockOf(), blockOf()), ifOf(b, blockOf(), blockOf())))
	parses(t, "if a { if b {} else { a = 1; } }", programOf(ifOf(a, blockOf(ifOf(b, blockOf(), blockOf(set))), blockOf())))
	parses(t, "for i = a to b {}", programOf(forOf("i", a, b, blockOf())))
	parses(t, "for i=1to 2{a = 1; for k = 0 to i {}}", programOf(forOf("i", numberOf(1), numberOf(2), blockOf(set, forOf("k", numberOf(0), nameOf("i"), blockOf())))))
}

func TestOutputs(t *testing.T) {
	parses(t, "out a to all;", programOf(outOf(a)))
	parses(t, "out a to 1;", programOf(outOf(a, 1)))
	parses(t, "out a to 3, 0, 3, 4294967295;", programOf(outOf(a, 3, 0, 3, 1<<32-1)))
}

func TestProcedures(t *testing.T) {
	num := typeOf(api.TyNum, 0, 0)
	inner := defOf("g", nil, blockOf(), b)
	parses(t, "def f() { return a; }", programOf(defOf("f", nil, blockOf(), a)))
	parses(t, "def f(a: num) { a = 1; return a; }", programOf(defOf("f", []api.Node{argOf("a", num)}, blockOf(setOf("a", numberOf(1))), a)))
	parses(t, "def f(a: num, b: bit[2], a: word 3) { out a to all; let c = 1; return c; }", programOf(defOf("f",
		[]api.Node{argOf("a", num), argOf("b", typeOf(api.TyBit, 0, 2)), argOf("a", typeOf(api.TyWord, 3, 0))},
		blockOf(outOf(a), letOf("c", numberOf(1))), c)))
	// Items of all kinds are allowed in blocks and procedures: that is for the type checker to say.
	parses(t, "def f() { def g() { return b; } in x: num from 1; return a; }", programOf(defOf("f", nil, blockOf(inner, inOf("x", num, 1)), a)))
	parses(t, "if a { def g() { return b; } in x: num from 1; out a to all; }", programOf(ifOf(a, blockOf(inner, inOf("x", num, 1), outOf(a)), blockOf())))
}

func TestPrimaries(t *testing.T) {
	for text, want := range map[string]api.Node{
		"0":                    numberOf(0),
		"0042":                 numberOf(42),
		"4294967295":           numberOf(1<<32 - 1),
		"a":                    a,
		"a()":                  callOf("a"),
		"a(b)":                 callOf("a", b),
		"a(b,1,c)":             callOf("a", b, numberOf(1), c),
		"num()":                callOf("num"),
		"num(a)":               callOf("num", a),
		"bit (a)":              callOf("bit", a),
		"word(4,a)":            callOf("word", numberOf(4), a),
		"word(a,b,c)":          callOf("word", a, b, c),
		"mux(a,sort(b),len())": callOf("mux", a, callOf("sort", b), callOf("len")),
		"(a)":                  a,
		"(((a)))":              a,
		"[a]":                  listOf(a),
		"[a,1,[b]]":            listOf(a, numberOf(1), listOf(b)),
		"[(a)]":                listOf(a),
		"a[b]":                 itemOf(a, b),
		"a[b][c]":              itemOf(itemOf(a, b), c),
		"a[b[c]]":              itemOf(a, itemOf(b, c)),
		"1[2]":                 itemOf(numberOf(1), numberOf(2)),
		"[a,b][1]":             itemOf(listOf(a, b), numberOf(1)),
		"a(b)[c]":              itemOf(callOf("a", b), c),
		"(a+b)[c]":             itemOf(binaryOf(a, "+", b), c),
		"a[b+c]":               itemOf(a, binaryOf(b, "+", c)),
		"-a[b]":                unaryOf("-", itemOf(a, b)),
		"(-a)[b]":              itemOf(unaryOf("-", a), b),
		"!a":                   unaryOf("!", a),
		"!-!a":                 unaryOf("!", unaryOf("-", unaryOf("!", a))),
		"--1":                  unaryOf("-", unaryOf("-", numberOf(1))),
	} {
		parses(t, "let x = "+text+";", programOf(letOf("x", want)))
		parses(t, "y[x] = f(1, "+text+") + 2;", programOf(putOf("y", nameOf("x"), binaryOf(callOf("f", numberOf(1), want), "+", numberOf(2)))))
	}
}

// Every two operators: the first one binds first if its row of the table is the later one, or if both are in one row.
func TestPrecedence(t *testing.T) {
	for v, high := range levels {
		for _, sign := range []string{"!", "-"} {
			parses(t, "x = "+sign+"a"+v+sign+"b;", programOf(setOf("x", binaryOf(unaryOf(sign, a), v, unaryOf(sign, b)))))
			parses(t, "x = "+sign+"(a"+v+"b);", programOf(setOf("x", unaryOf(sign, binaryOf(a, v, b)))))
		}
		for w, low := range levels {
			text := "x = a" + v + "b" + w + "c;"
			switch {
			case high == low && high == levels["<"]:
				failsAt(t, "x = a"+v+"b ~"+w+" c;")
				parses(t, "x = (a"+v+"b)"+w+"c;", programOf(setOf("x", binaryOf(binaryOf(a, v, b), w, c))))
			case high >= low:
				parses(t, text, programOf(setOf("x", binaryOf(binaryOf(a, v, b), w, c))))
			default:
				parses(t, text, programOf(setOf("x", binaryOf(a, v, binaryOf(b, w, c)))))
			}
			parses(t, "x = a"+v+"(b"+w+"c);", programOf(setOf("x", binaryOf(a, v, binaryOf(b, w, c)))))
			parses(t, "x = (a"+v+"b)"+w+"c;", programOf(setOf("x", binaryOf(binaryOf(a, v, b), w, c))))
		}
	}
	parses(t, "x = a|b^c&d<a+b*c;", programOf(setOf("x", binaryOf(a, "|", binaryOf(b, "^", binaryOf(c, "&", binaryOf(d, "<", binaryOf(a, "+", binaryOf(b, "*", c)))))))))
	parses(t, "x = a*b-c==d&a^b|c;", programOf(setOf("x", binaryOf(binaryOf(binaryOf(binaryOf(binaryOf(binaryOf(a, "*", b), "-", c), "==", d), "&", a), "^", b), "|", c))))
	parses(t, "x = a<b&c<d;", programOf(setOf("x", binaryOf(binaryOf(a, "<", b), "&", binaryOf(c, "<", d)))))
}

// The errors.

func TestErrorsOfTokens(t *testing.T) {
	fails(t, strings.Repeat(" ", 20001), 0, api.ErrLimit)
	fails(t, strings.Repeat("(", 20001), 0, api.ErrLimit)
	parses(t, strings.Repeat(" ", 20000), programOf())
	fails(t, "let a = 1 / 2;", 10, api.ErrForm)
	fails(t, "let A = 1;", 4, api.ErrForm)
	fails(t, "x = 4294967296;", 4, api.ErrLimit)
	fails(t, "x = 00000000000;", 4, api.ErrLimit)
	fails(t, "x = "+strings.Repeat("a", 25)+";", 4, api.ErrLimit)
	// They come before errors of the other kinds at earlier offsets.
	fails(t, "let in = ; ?", 11, api.ErrForm)
	fails(t, strings.Repeat("(", 300)+" ?", 301, api.ErrForm)
	fails(t, strings.Repeat("(", 300)+" 4294967296", 301, api.ErrLimit)
}

func TestErrorsOfSyntax(t *testing.T) {
	for _, text := range []string{
		"~1;", "~;", "~}", "~)", "~=", "~to", "~all", "~num", "~bit(1);", "~return 1;", "~else {}", "~{}", "~(a) = 1;", "~[1] = a;", "~-a;", "a = 1; ~}", "a = 1;~;", "~from",
		"in ~", "in ~1", "in ~num: num from 1;", "in x~", "in x ~= 1;", "in x:~", "in x: ~a from 1;", "in x: ~from 1;", "in x: word ~from 1;", "in x: num ~8 from 1;", "in x: word 8 ~8", "in x: num[~] from 1;",
		"in x: num[1~, 2]", "in x: num[~a]", "in x: num[1] ~[2] from 1;", "in x: num~", "in x: num ~;", "in x: num from ~x;", "in x: num from ~all;", "in x: num from 1~", "in x: num from 1 ~, 2;", "in x: num from 1 ~in", "in x ~, y: num from 1;", "in x: num from ~-1;",
		"let ~", "let ~1 = 2;", "let ~in = 1;", "let ~word = 1;", "let a~", "let a~;", "let a ~== 1;", "let a~: num = 1;", "let a~[1] = 2;", "let a =~", "let a = ~;", "let a = 1~", "let a = 1 // x\n ~", "let a = 1 ~let", "let a = 1 ~b;", "let a = 1~, b = 2;", "let a = 1~}",
		"a~", "a ~1", "a~;", "a ~== 1;", "a~(1);", "a ~< b;", "a ~: num", "a =~", "a = ~= 1;", "a[~] = 1;", "a[1~", "a[1~, 2] = 1;", "a[1]~", "a[1]~[2] = 1;", "a[1]~;", "a[1] ~== 1;", "a[1] = ~]",
		"if ~", "if ~{}", "if a~", "if a ~;", "if a ~a = 1;", "if a {~", "if a {~)", "if a { a = 1 ~}", "if a {} else~", "if a {} else ~if b {}", "if a {} else ~a = 1;", "if a {} else {} ~else {}", "~else {} if a {}", "if a {}~;", "if (a~", "if a { ~return 1; }", "if ~if",
		"for ~", "for ~1", "for i~", "for i ~in", "for i =~", "for i = 0~", "for i = 0 ~, 1", "for i = 0 ~from 1", "for i = 0 to~", "for i = 0 to ~all {}", "for i = 0 to ~{}", "for i = 0 to 1~", "for i = 0 to 1~;", "for i = 0 to 1 {~", "for i~[0] = 1",
		"out ~", "out ~to", "out a~", "out a~;", "out a ~from 1;", "out a to~", "out a to ~;", "out a to ~b;", "out a to ~-1;", "out a to 1~", "out a to 1 ~2;", "out a to 1,~", "out a to 1,~;", "out a to 1, ~all;", "out a to all~", "out a to all~, 1;", "out a to all ~all;", "out a~, b to all;", "out a to ~(1);",
		"def ~", "def ~num", "def f~", "def f~:", "def f ~{", "def f(~", "def f(~1", "def f(~,", "def f(a~", "def f(a~)", "def f(a: ~)", "def f(a: num~", "def f(a: num,~", "def f(a: num,~)", "def f(a: num ~b: num)", "def f(~(", "def f()~", "def f()~;", "def f() {~", "def f() {~}", "def f() { a = 1; ~}", "def f() { return~", "def f() { return ~;", "def f() { return 1~",
		"def f() { return 1~}", "def f() { return 1;~", "def f() { return 1; ~a = 1; }", "def f() { return 1; ~return 2; }", "def f() { return 1; }~;", "def f(~in: num)", "def f() { ~{ return 1; } }",
		"x = ~", "x = ~*a;", "x = ~+a;", "x = a+~;", "x = a + ~", "x = a*~|b;", "x = a ~!b;", "x = a ~b;", "x = a ~1;", "x = !~;", "x = -~=", "x = ~=", "x = a ~= b;", "x = num~;", "x = word ~8;", "x = bit~[1];", "x = num~", "x = a < b ~< c;", "x = a == b ~< c;", "x = a < b ~== c;",
		"x = (~", "x = (~);", "x = (a~", "x = (a~, b);", "x = (a~];", "x = [~", "x = [~];", "x = [a~", "x = [a,~", "x = [a,~];", "x = [~,", "x = [a~);", "x = a(~", "x = a(~,", "x = a(b,~);", "x = a(b~;", "x = a(b~];", "x = a[~];", "x = a[b~", "x = a[b~, c];", "x = a[b~);", "x = a()~();", "x = (a)~(b);", "x = 1~(2);", "x = a[1]~(2);", "x = ~in;", "x = ~all;", "x = a ~to b;", "x = ~{};",
	} {
		failsAt(t, text)
	}
}

func TestErrorsAtTheEnd(t *testing.T) {
	for _, text := range []string{"let a = 1", "in x: num from 1", "if a { b = 1;", "def f() { return 1;", "out a to 1, 2", "x = (1"} {
		for _, end := range []string{"", " ", "\n\n", " // x", "//\n", "\t//;\r\n "} {
			fails(t, text+end, len(text+end), api.ErrForm)
		}
	}
}

// alphabet contains a token for each terminal of the grammar.
func alphabet() []api.Token {
	l, _, _ := token.Read("a 1 in from let if else for to out all def return num bit word ( ) [ ] { } , : ; = == < + - * & | ^ !")
	return l
}

// Every text of up to 5 tokens is compared with the reference, except those that continue an error.
func TestShortTexts(t *testing.T) {
	r := newRecognizer()
	tried := 0
	var extend func(text string, more int)
	extend = func(text string, more int) {
		for _, k := range alphabet() {
			tried++
			at, wrong := len(text), !r.take(k)
			longer := text + k.Text + " "
			switch {
			case wrong:
				fails(t, longer+"a = 1;", at, api.ErrForm)
			case !r.isWhole():
				fails(t, longer, len(longer), api.ErrForm)
			default:
				n, at, e := parse.Parse(longer)
				if e != api.OK || at != 0 || parse.Check(n) != api.OK {
					t.Error(longer, at, e)
				}
			}
			if !wrong && more > 1 {
				extend(longer, more-1)
			}
			r.back()
		}
	}
	extend("", 5)
	if tried < 40000 {
		t.Error(tried)
	}
}

// changed returns the words with one change.
func changed(words []string, random *rand.Rand) []string {
	l := slices.Clone(words)
	i := random.Intn(len(l) + 1)
	other := pick(random, alphabet()...).Text
	if random.Intn(2) == 0 && len(l) > 0 {
		other = pick(random, l...)
	}
	switch k := random.Intn(5); {
	case k == 0 || i == len(l):
		return slices.Insert(l, i, other)
	case k == 1:
		return slices.Delete(l, i, i+1)
	case k == 2:
		return l[:i]
	case k == 3:
		l[i] = other
	default:
		k := random.Intn(len(l))
		l[i], l[k] = l[k], l[i]
	}
	return l
}

// Programs with a few changes are compared with the reference.
func TestChangedPrograms(t *testing.T) {
	random := rand.New(rand.NewSource(91))
	accepted, rejected := 0, 0
	for i := 0; accepted+rejected < 4000; i++ {
		words := plain(wordsOf(randomProgram(int64(i)), random))
		if len(words) > 60 {
			continue
		}
		for range random.Intn(3) {
			words = changed(words, random)
		}
		text := laid(words, random)
		at, wrong := judged(text)
		if wrong {
			rejected++
			fails(t, text, at, api.ErrForm)
			continue
		}
		accepted++
		n, at, e := parse.Parse(text)
		if e != api.OK || at != 0 || parse.Check(n) != api.OK {
			t.Errorf("Parse(%q) is %v with error %d at %d", text, n, e, at)
		}
	}
	if accepted < 1000 || rejected < 1000 {
		t.Error(accepted, rejected)
	}
}

func TestBrackets(t *testing.T) {
	all := strings.Repeat("([{", 100)
	for _, open := range []string{strings.Repeat("(", 300), strings.Repeat("[", 300), strings.Repeat("{", 300), all} {
		fails(t, open[:200], 0, api.ErrForm)
		fails(t, open[:201], 200, api.ErrLimit)
		fails(t, "x = "+open, 204, api.ErrLimit)
		for _, end := range []string{")", "]", "}"} {
			// A closing bracket closes a bracket of any kind, and none if none is open.
			fails(t, open[:200]+end+open[:1], 0, api.ErrForm)
			fails(t, open[:200]+end+open[:2], 202, api.ErrLimit)
			fails(t, open[:100]+strings.Repeat(end, 200)+open[:200], 0, api.ErrForm)
			fails(t, open[:100]+strings.Repeat(end, 200)+open[:201], 500, api.ErrLimit)
			fails(t, strings.Repeat(end, 300)+open[:200], 0, api.ErrForm)
			fails(t, strings.Repeat(end, 300)+" "+open[:201], 501, api.ErrLimit)
		}
	}
	// Parentheses alone do not make a tree deeper.
	deep := strings.Repeat("(", 200) + "1" + strings.Repeat(")", 200)
	parses(t, "x = "+deep+";", programOf(setOf("x", numberOf(1))))
	parses(t, "x = "+deep+"+"+deep+";", programOf(setOf("x", binaryOf(numberOf(1), "+", numberOf(1)))))
	fails(t, "x = ("+deep+");", 204, api.ErrLimit)
	fails(t, "if a { x = "+deep+"; }", 210, api.ErrLimit)
	// The limit on brackets comes before errors of syntax at earlier offsets.
	fails(t, "; in ( "+deep, 206, api.ErrLimit)
}

func TestDepth(t *testing.T) {
	signs := func(n int) string { return "x=" + strings.Repeat("-", n) + "a;" }
	sums := func(n int) string { return "x=a" + strings.Repeat("+a", n) + ";" }
	indices := func(n int) string { return "x=a" + strings.Repeat("[a]", n) + ";" }
	lists := func(n int) string { return "x=" + strings.Repeat("[", n) + "a" + strings.Repeat("]", n) + ";" }
	for _, text := range []func(n int) string{signs, sums, indices, lists} {
		n, _, e := parse.Parse(text(57))
		if e != api.OK || parse.Deep(n) != 60 {
			t.Error(text(57), parse.Deep(n), e)
		}
		fails(t, text(58), 0, api.ErrLimit)
		fails(t, text(150), 0, api.ErrLimit)
	}
	parses(t, signs(57), programOf(setOf("x", deepSigns(58))))
	for _, text := range []string{signs(19996), sums(9998), indices(6665), lists(200)} {
		fails(t, text, 0, api.ErrLimit)
	}
	blocks := func(n int, s string) string { return strings.Repeat("if a {", n) + s + strings.Repeat("}", n) }
	parses(t, "if a {}", programOf(ifOf(a, blockOf(), blockOf())))
	for _, x := range []struct {
		text string
		deep int
	}{{blocks(29, ""), 59}, {blocks(28, "x = -a;"), 60}, {blocks(29, "if a {}"), 61}, {blocks(29, "x = a;"), 61}, {blocks(200, ""), 401}} {
		n, at, e := parse.Parse(x.text)
		if x.deep <= 60 && (e != api.OK || at != 0 || parse.Deep(n) != x.deep) {
			t.Error(x, parse.Deep(n), at, e)
		}
		if x.deep > 60 {
			fails(t, x.text, 0, api.ErrLimit)
		}
	}
	// Errors of syntax come before the limit on the depth.
	fails(t, signs(100)+"=", len(signs(100)), api.ErrForm)
	fails(t, "x="+strings.Repeat("-", 19998), 20000, api.ErrForm)
	fails(t, strings.Repeat("if a {", 61), 366, api.ErrForm)
}

// A text of 20000 bytes cannot have more than 20000 nodes, but almost.
func TestManyNodes(t *testing.T) {
	element := "a" + strings.Repeat("+a", 55) + ","
	text := "x=[" + strings.Repeat(element, 178) + "a];"
	n, at, e := parse.Parse(text)
	if e != api.OK || at != 0 || parse.Nodes(n) != 3+178*111+1 || parse.Nodes(n) < 19700 {
		t.Error(len(text), parse.Nodes(n), at, e)
	}
}

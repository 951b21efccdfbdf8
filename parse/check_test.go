package parse_test

import (
	"math"
	"math/rand"
	"regexp"
	"slices"
	"strings"
	"testing"

	"junto/api"
	"junto/parse"
)

// P9.2

// initials has a letter for each kind of node, at its number.
const initials = " PILSUFROMBTQAnvcxlub"

// An item (M is a procedure) and an expression, by their letters.
const (
	itemForm = "[ILSUFROM]"
	exprForm = "[nvcxlub]"
)

// form is the reference for a kind of nodes: what its text must be, and the letters of its Kids.
type form struct {
	text, kids *regexp.Regexp
}

func formOf(text, kids string) form {
	return form{regexp.MustCompile("^(" + text + ")$"), regexp.MustCompile("^(" + kids + ")$")}
}

const nameForm = "[a-z][a-z0-9_]{0,23}"

var forms = map[int]form{
	api.NoProgram: formOf("", itemForm+"*"),
	api.NoIn:      formOf(nameForm, "T"),
	api.NoLet:     formOf(nameForm, exprForm),
	api.NoSet:     formOf(nameForm, exprForm),
	api.NoPut:     formOf(nameForm, exprForm+"{2}"),
	api.NoIf:      formOf("", exprForm+"BB"),
	api.NoFor:     formOf(nameForm, exprForm+"{2}B"),
	api.NoOut:     formOf("", exprForm+"Q*"),
	api.NoDef:     formOf(nameForm, "A*B"+exprForm),
	api.NoBlock:   formOf("", itemForm+"*"),
	api.NoType:    formOf("", "nn"),
	api.NoTo:      formOf("", ""),
	api.NoArg:     formOf(nameForm, "T"),
	api.NoNumber:  formOf("", ""),
	api.NoName:    formOf(nameForm, ""),
	api.NoCall:    formOf(nameForm, exprForm+"*"),
	api.NoItem:    formOf("", exprForm+"{2}"),
	api.NoList:    formOf("", exprForm+"+"),
	api.NoUnary:   formOf("[!-]", exprForm),
	api.NoBinary:  formOf("==|[|^&<+*-]", exprForm+"{2}"),
}

var reserved = strings.Fields("in from let if else for to out all def return num bit word")

// isSound is the reference for a node and all below it.
func isSound(n api.Node) bool {
	f, known := forms[n.Kind]
	if !known || !f.text.MatchString(n.Text) {
		return false
	}
	kids := ""
	for _, kid := range n.Kids {
		if !isSound(kid) {
			return false
		}
		kids += initials[kid.Kind : kid.Kind+1]
	}
	return f.kids.MatchString(kids) && isSoundText(n) && isSoundNumber(n)
}

func isSoundText(n api.Node) bool {
	if n.Kind == api.NoCall && slices.Contains([]string{"num", "bit", "word"}, n.Text) {
		return true
	}
	return !slices.Contains(reserved, n.Text)
}

func isSoundNumber(n api.Node) bool {
	switch n.Kind {
	case api.NoIn, api.NoTo, api.NoNumber:
		return n.Num < 1<<32
	case api.NoType:
		return n.Num == api.TyWord || n.Num > 0 && n.Num < api.TyWord && n.Kids[0].Num == 0
	}
	return n.Num == 0
}

// everything is a program with nodes of all kinds in all their positions.
func everything(t *testing.T) api.Node {
	t.Helper()
	n, _, e := parse.Parse(`in x: num from 1; in y: bit[2] from 2; in z: word 8[4] from 4294967295;
let a = 0; a = -1; a[0] = !b; if a { in x: num from 0; } else { a = 1; } for i = 0 to n - 1 { a = i; }
out a to all; out a == b to 1, 2; def f() { return 1; } def g(a: num, b: word 3) { let c = a; return c; }
x = (a + b) * -c[d][1] | [1, a][0] ^ num(1) & bit(a) < word(2, f()) ; if a < b { if c { def h() { return [[a], b]; } } }`)
	if e != api.OK {
		t.Fatal(e)
	}
	for kind := range forms {
		if !slices.ContainsFunc(places(&n), func(m *api.Node) bool { return m.Kind == kind }) {
			t.Fatal(kind)
		}
	}
	return n
}

// agrees checks a tree that is small against the reference, and returns whether it is sound.
func agrees(t *testing.T, what string, n api.Node) bool {
	t.Helper()
	if n.Kind == api.NoProgram && isSound(n) {
		checks(t, what, n, api.OK)
		return true
	}
	checks(t, what, n, api.ErrForm)
	return false
}

// kinds are all kinds and some that there are not.
func kinds() []int {
	l := []int{math.MinInt, -1, 0, 21, 1<<32 + 1, math.MaxInt}
	for kind := api.NoProgram; kind <= api.NoBinary; kind++ {
		l = append(l, kind)
	}
	return l
}

var (
	texts = slices.Concat(reserved, strings.Fields("| ^ & == < + - * ! = ( ) [ ] { } , : ; a z9_ mux sort secret len aA A 9 1a _a a.b a// ä || -- ! = <= === \xff"), []string{
		"", " ", "a ", " a", "a b", "- ", "a\n", "\x00", strings.Repeat("a", 24), strings.Repeat("a", 25), strings.Repeat("+", 30000),
	})
	numbers = []uint64{0, 1, 2, 3, 4, 5, 1<<32 - 1, 1 << 32, 1<<32 + 1, 1<<32 + 2, 1 << 63, 1<<64 - 1}
)

// Every node of a program that has all kinds of nodes is replaced in every one of its fields.
func TestCheckEachField(t *testing.T) {
	n := everything(t)
	checks(t, "everything", n, api.OK)
	sound := 0
	for _, place := range places(&n) {
		before := *place
		var others []api.Node
		for _, kind := range kinds() {
			others = append(others, nodeOf(kind, before.Text, before.Num, before.Kids...))
		}
		for _, text := range texts {
			others = append(others, nodeOf(before.Kind, text, before.Num, before.Kids...))
		}
		for _, number := range numbers {
			others = append(others, nodeOf(before.Kind, before.Text, number, before.Kids...))
		}
		for _, kids := range otherKids(before.Kids) {
			others = append(others, nodeOf(before.Kind, before.Text, before.Num, kids...))
		}
		for _, other := range others {
			*place = other
			if agrees(t, "a changed program", n) {
				sound++
			}
		}
		*place = before
	}
	if sound < 1000 {
		t.Error(sound)
	}
}

// otherKids returns the list with one node more, fewer, or of another kind.
func otherKids(kids []api.Node) [][]api.Node {
	l := [][]api.Node{nil}
	for _, other := range samples() {
		for i := range len(kids) + 1 {
			l = append(l, slices.Insert(slices.Clone(kids), i, other))
		}
		for i := range kids {
			replaced := slices.Clone(kids)
			replaced[i] = other
			l = append(l, replaced)
		}
	}
	for i := range kids {
		l = append(l, slices.Delete(slices.Clone(kids), i, i+1), slices.Concat(kids[i:], kids[:i]))
	}
	return l
}

// samples are small sound trees of all kinds.
func samples() []api.Node {
	num := typeOf(api.TyNum, 0, 0)
	return []api.Node{
		programOf(), inOf("x", num, 1), letOf("a", b), setOf("a", b), putOf("a", b, c), ifOf(a, blockOf(), blockOf()), forOf("i", a, b, blockOf()), outOf(a, 1), defOf("f", nil, blockOf(), a),
		blockOf(), num, typeOf(api.TyWord, 3, 2), nodeOf(api.NoTo, "", 1), argOf("x", num), numberOf(1), a, callOf("f"), itemOf(a, b), listOf(a), unaryOf("-", a), binaryOf(a, "+", b),
	}
}

// The root of a program is a NoProgram, and no other tree is a program.
func TestCheckRoot(t *testing.T) {
	for _, n := range samples() {
		agrees(t, "a sample", n)
		agrees(t, "a sample in a program", programOf(n))
		agrees(t, "a sample in a let", programOf(letOf("a", n)))
		agrees(t, "a sample in a block", programOf(ifOf(a, blockOf(n), blockOf())))
	}
	checks(t, "the zero value", api.Node{}, api.ErrForm)
	checks(t, "an empty program", programOf(), api.OK)
}

func TestCheckTypes(t *testing.T) {
	for _, kind := range numbers {
		for _, bits := range numbers {
			for _, items := range numbers {
				agrees(t, "a type", programOf(inOf("x", typeOf(kind, bits, items), 1)))
				agrees(t, "a type", programOf(defOf("f", []api.Node{argOf("a", typeOf(kind, bits, items))}, blockOf(), a)))
			}
		}
	}
}

// Each text in each place where a text may stand.
func TestCheckTexts(t *testing.T) {
	num := typeOf(api.TyNum, 0, 0)
	for _, s := range texts {
		for _, n := range []api.Node{
			inOf(s, num, 1), letOf(s, a), setOf(s, a), putOf(s, a, b), forOf(s, a, b, blockOf()), defOf(s, nil, blockOf(), a), defOf("f", []api.Node{argOf(s, num)}, blockOf(), a),
			outOf(nameOf(s)), outOf(callOf(s)), outOf(callOf(s, a, b)), outOf(unaryOf(s, a)), outOf(binaryOf(a, s, b)),
		} {
			agrees(t, s, programOf(n))
		}
	}
}

// Random programs with some nodes taken from other places.
func TestCheckMixed(t *testing.T) {
	random := rand.New(rand.NewSource(92))
	sound := 0
	for i := range 4000 {
		n := randomProgram(int64(i))
		l := places(&n)
		for range random.Intn(3) {
			*pick(random, l...) = copied(*pick(random, l...))
			l = places(&n)
		}
		if len(l) < 300 && agrees(t, "a mixed program", n) {
			sound++
		}
	}
	if sound < 1000 || sound > 3500 {
		t.Error(sound)
	}
}

// wide returns a program with this many nodes.
func wide(nodes int) api.Node {
	return programOf(letOf("a", listOf(slices.Repeat([]api.Node{a}, nodes-3)...)))
}

// deep returns a program that is this deep.
func deep(levels int) api.Node {
	return programOf(letOf("a", deepSigns(levels-2)))
}

func TestCheckSize(t *testing.T) {
	checks(t, "20000 nodes", programOf(slices.Repeat([]api.Node{letOf("a", b)}, 9999)...), api.OK)
	for _, nodes := range []int{20000, 20001, 20002, 1 << 17} {
		want := api.OK
		if nodes > 20000 {
			want = api.ErrLimit
		}
		if e := parse.Check(wide(nodes)); e != want {
			t.Error(nodes, e)
		}
		bad := wide(nodes)
		bad.Kids[0].Kids[0].Kids[nodes-4].Num = 1
		checks(t, "many nodes with a wrong one", bad, api.ErrForm)
	}
	for _, levels := range []int{3, 59, 60, 61, 62, 1000, 1 << 16} {
		want := api.OK
		if levels > 60 {
			want = api.ErrLimit
		}
		checks(t, "a deep program", deep(levels), want)
		bad := deep(levels)
		l := places(&bad)
		l[len(l)-1].Text = "in"
		checks(t, "a deep program with a wrong leaf", bad, api.ErrForm)
	}
	checks(t, "deep blocks", deepBlocks(59), api.OK)
	checks(t, "deep blocks", deepBlocks(61), api.ErrLimit)
	checks(t, "no program, but deep", deepSigns(100), api.ErrForm)
}

// deepBlocks returns a program that is this deep, which is an odd number.
func deepBlocks(levels int) api.Node {
	block := blockOf()
	for range levels/2 - 1 {
		block = blockOf(ifOf(a, blockOf(), block))
	}
	return programOf(ifOf(a, block, blockOf()))
}

package parse_test

import (
	"math/rand"
	"slices"
	"strings"
	"testing"

	"junto/api"
	"junto/parse"
)

// Functions that return nodes, by what they are in the chapter's table.

func nodeOf(kind int, text string, num uint64, kids ...api.Node) api.Node {
	return api.Node{Kind: kind, Text: text, Num: num, Kids: kids}
}

func programOf(items ...api.Node) api.Node {
	return nodeOf(api.NoProgram, "", 0, items...)
}

func blockOf(items ...api.Node) api.Node {
	return nodeOf(api.NoBlock, "", 0, items...)
}

func numberOf(n uint64) api.Node {
	return nodeOf(api.NoNumber, "", n)
}

func nameOf(s string) api.Node {
	return nodeOf(api.NoName, s, 0)
}

func listOf(l ...api.Node) api.Node {
	return nodeOf(api.NoList, "", 0, l...)
}

func itemOf(a, i api.Node) api.Node {
	return nodeOf(api.NoItem, "", 0, a, i)
}

func unaryOf(s string, a api.Node) api.Node {
	return nodeOf(api.NoUnary, s, 0, a)
}

func binaryOf(a api.Node, s string, b api.Node) api.Node {
	return nodeOf(api.NoBinary, s, 0, a, b)
}

func callOf(s string, l ...api.Node) api.Node {
	return nodeOf(api.NoCall, s, 0, l...)
}

func typeOf(kind, bits, items uint64) api.Node {
	return nodeOf(api.NoType, "", kind, numberOf(bits), numberOf(items))
}

func argOf(s string, kind api.Node) api.Node {
	return nodeOf(api.NoArg, s, 0, kind)
}

func inOf(s string, kind api.Node, party uint64) api.Node {
	return nodeOf(api.NoIn, s, party, kind)
}

func letOf(s string, e api.Node) api.Node {
	return nodeOf(api.NoLet, s, 0, e)
}

func setOf(s string, e api.Node) api.Node {
	return nodeOf(api.NoSet, s, 0, e)
}

func putOf(s string, i, e api.Node) api.Node {
	return nodeOf(api.NoPut, s, 0, i, e)
}

func ifOf(c, first, second api.Node) api.Node {
	return nodeOf(api.NoIf, "", 0, c, first, second)
}

func forOf(s string, first, last, block api.Node) api.Node {
	return nodeOf(api.NoFor, s, 0, first, last, block)
}

func outOf(e api.Node, parties ...uint64) api.Node {
	kids := []api.Node{e}
	for _, party := range parties {
		kids = append(kids, nodeOf(api.NoTo, "", party))
	}
	return nodeOf(api.NoOut, "", 0, kids...)
}

func defOf(s string, args []api.Node, block, result api.Node) api.Node {
	return nodeOf(api.NoDef, s, 0, slices.Concat(args, []api.Node{block, result})...)
}

// Names that occur in many tests.
var a, b, c, d = nameOf("a"), nameOf("b"), nameOf("c"), nameOf("d")

// same reports whether two trees are equal. Nil and empty lists are.
func same(m, n api.Node) bool {
	return m.Kind == n.Kind && m.Text == n.Text && m.Num == n.Num && slices.EqualFunc(m.Kids, n.Kids, same)
}

// copied returns the tree in new memory.
func copied(n api.Node) api.Node {
	var kids []api.Node
	for _, kid := range n.Kids {
		kids = append(kids, copied(kid))
	}
	n.Kids = kids
	return n
}

// places returns pointers to all nodes of a tree, its deepest one last if there is one way only.
func places(n *api.Node) []*api.Node {
	l := []*api.Node{n}
	for i := 0; i < len(l); i++ {
		for k := range l[i].Kids {
			l = append(l, &l[i].Kids[k])
		}
	}
	return l
}

// brief returns the start of a long text.
func brief(text string) string {
	return text[:min(len(text), 200)]
}

// parses checks that Parse returns this tree.
func parses(t *testing.T, text string, want api.Node) {
	t.Helper()
	n, at, e := parse.Parse(text)
	if e != api.OK || at != 0 || !same(n, want) {
		t.Errorf("Parse(%q) is %v with error %d at %d, not %v", brief(text), n, e, at, want)
	}
}

// fails checks that Parse returns this error at this offset, and no tree.
func fails(t *testing.T, text string, at int, want api.Errno) {
	t.Helper()
	n, place, e := parse.Parse(text)
	if e != want || place != at || !same(n, api.Node{}) {
		t.Errorf("Parse(%q) is %v with error %d at %d, not error %d at %d", brief(text), n, e, place, want, at)
	}
}

// failsAt checks that Parse returns ErrForm at the only ~ in the text, which is removed.
func failsAt(t *testing.T, text string) {
	t.Helper()
	fails(t, strings.Replace(text, "~", "", 1), strings.Index(text, "~"), api.ErrForm)
}

// prints checks that Text returns this text.
func prints(t *testing.T, n api.Node, want string) {
	t.Helper()
	if text, e := parse.Text(n); text != want || e != api.OK {
		t.Errorf("Text of %v is %q with error %d, not %q", n, text, e, want)
	}
}

// checks checks that Check returns this error, and Text too if it is one.
func checks(t *testing.T, what string, n api.Node, want api.Errno) {
	t.Helper()
	if e := parse.Check(n); e != want {
		t.Errorf("Check of %s returns error %d, not %d", what, e, want)
	}
	text, e := parse.Text(n)
	if want != api.OK && (text != "" || e != want) {
		t.Errorf("Text of %s is %q with error %d, not error %d", what, brief(text), e, want)
	}
}

// deepSigns returns a name with signs before it, which is this deep.
func deepSigns(deep int) api.Node {
	n := a
	for range deep - 1 {
		n = unaryOf("-", n)
	}
	return n
}

func pick[T any](random *rand.Rand, l ...T) T {
	return l[random.Intn(len(l))]
}

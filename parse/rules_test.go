package parse_test

import (
	"math/rand"
	"testing"

	"junto/api"
	"junto/parse"
)

// The document's Rule 4: arguments are neither modified nor shared.

func TestArgumentsAreKept(t *testing.T) {
	for i := range 300 {
		n := randomProgram(int64(i))
		before := copied(n)
		parse.Text(n)
		parse.Check(n)
		parse.Nodes(n)
		parse.Deep(n)
		if !same(n, before) {
			t.Fatal(n, before)
		}
	}
}

// A list of a result that is changed or extended changes no other list.
func TestResultsAreNew(t *testing.T) {
	for i := range 100 {
		text, e := parse.Text(randomProgram(int64(i)))
		if e != api.OK {
			continue
		}
		n, _, _ := parse.Parse(text)
		before := copied(n)
		for _, place := range places(&n) {
			_ = append(place.Kids, nodeOf(99, "?", 99))
		}
		if !same(n, before) {
			t.Fatal(n, before)
		}
		again, _, _ := parse.Parse(text)
		for _, place := range places(&n) {
			*place = nodeOf(99, "?", 99)
		}
		if !same(again, before) {
			t.Fatal(again, before)
		}
		parses(t, text, before)
	}
}

// The document's P1 and P2: all calls end without a panic, and twice with the same results. With Rule 2, errors come
// with zero values.

func TestAnyText(t *testing.T) {
	random := rand.New(rand.NewSource(90))
	for i := range 20000 {
		text := ""
		for range random.Intn(40) {
			switch i % 3 {
			case 0:
				text += string([]byte{byte(random.Intn(256))})
			case 1:
				text += pick(random, alphabet()...).Text + pick(random, "", " ")
			default:
				text += pick(random, alphabet()...).Text + pick(random, " ", "\n", "// ")
			}
		}
		n, at, e := parse.Parse(text)
		m, place, f := parse.Parse(text)
		if !same(n, m) || place != at || f != e || at < 0 || at > len(text) || e == api.OK && at != 0 || e != api.OK && !same(n, api.Node{}) {
			t.Errorf("Parse(%q) is %v with error %d at %d", text, n, e, at)
		}
	}
}

// randomTree returns a tree whose nodes are hardly ever allowed.
func randomTree(random *rand.Rand, deep int) api.Node {
	n := nodeOf(pick(random, kinds()...), pick(random, texts...), pick(random, numbers...))
	for range random.Intn(4) * min(deep, 1) {
		n.Kids = append(n.Kids, randomTree(random, deep-1))
	}
	return n
}

func TestAnyTree(t *testing.T) {
	random := rand.New(rand.NewSource(97))
	for range 5000 {
		n := randomTree(random, 4)
		agrees(t, "a random tree", n)
		n.Kind = api.NoProgram
		agrees(t, "a random tree", n)
		sized(t, n, len(places(&n)), len(generations(n)))
		text, e := parse.Text(n)
		if again, f := parse.Text(n); again != text || f != e {
			t.Error(n, text, again)
		}
	}
}

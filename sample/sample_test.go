package sample_test

import (
	"math/rand"
	"testing"

	"junto/api"
	"junto/check"
	"junto/parse"
	"junto/sample"
)

// count adds the kinds of nodes that a tree contains.
func count(kinds map[int]int, n api.Node) {
	kinds[n.Kind]++
	for _, kid := range n.Kids {
		count(kinds, kid)
	}
}

// made returns the text and the tree of a random program, and the error of check.Check.
func made(t *testing.T, seed int64, careless int) (string, api.Node, api.Errno) {
	t.Helper()
	r := rand.New(rand.NewSource(seed))
	text := sample.New(r.Intn, careless).Program()
	n, at, e := parse.Parse(text)
	if e != api.OK {
		t.Fatalf("%s: error %d at %d", text, e, at)
	}
	return text, n, check.Check(api.Setup{P: 257, N: 5, T: 1}, n)
}

// A careful maker makes programs of all kinds, most of which are accepted.
func TestCareful(t *testing.T) {
	kinds := map[int]int{}
	accepted := 0
	for i := range 500 {
		text, n, e := made(t, int64(i), 1000000)
		count(kinds, n)
		if e == api.OK {
			accepted++
		}
		if again, _, _ := made(t, int64(i), 1000000); again != text {
			t.Error("the same choices make another program:", text, again)
		}
	}
	if accepted < 400 {
		t.Error(accepted)
	}
	for kind := api.NoProgram; kind <= api.NoBinary; kind++ {
		if kinds[kind] < 100 {
			t.Error(kind, kinds[kind])
		}
	}
}

// A careless one makes programs with all errors of the checker.
func TestCareless(t *testing.T) {
	found := map[api.Errno]int{}
	for i := range 3000 {
		_, _, e := made(t, int64(i), 50)
		found[e]++
	}
	for _, e := range []api.Errno{api.OK, api.ErrArg, api.ErrTwice, api.ErrState, api.ErrType, api.ErrName} {
		if found[e] < 20 {
			t.Error(e, found)
		}
	}
}

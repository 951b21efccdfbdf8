package check_test

import (
	"math"
	"slices"
	"testing"

	"junto/api"
	"junto/check"
	"junto/parse"
	"junto/sample"
)

// same reports whether two trees are equal.
func same(m, n api.Node) bool {
	return m.Kind == n.Kind && m.Text == n.Text && m.Num == n.Num && slices.EqualFunc(m.Kids, n.Kids, same)
}

// The document's Rule 4: arguments are neither modified nor shared.

func TestArgumentsAreKept(t *testing.T) {
	for i := range 300 {
		n := parsed(t, newMaker(int64(i), 50).Program())
		before := sample.Copy(n)
		check.Check(setup, n)
		check.Slots(setup, n)
		check.Outs(setup, n)
		if !same(n, before) {
			t.Fatal(n, before)
		}
	}
	l := []api.Type{num, secret(num), num}
	check.List(l)
	check.Call("mux", 0, l)
	check.Call("word", 3, l)
	if !slices.Equal(l, []api.Type{num, secret(num), num}) {
		t.Error(l)
	}
}

func TestResultsAreNew(t *testing.T) {
	n := parsed(t, "in a: num from 1; in b: bit[3] from 2; out a to all; out b to all; out 1 to all;")
	for range 2 {
		slots, _ := check.Slots(setup, n)
		outs, _ := check.Outs(setup, n)
		if !slices.Equal(slots, []api.Slot{numSlot(1), bitSlot(2), bitSlot(2), bitSlot(2)}) || !slices.Equal(outs, []api.Type{secret(num), secret(array(bit, 3)), num}) {
			t.Error(slots, outs)
		}
		clear(slots)
		clear(outs)
		_ = append(slots[:1], api.Slot{Party: 9})
		_ = append(outs[:1], api.Type{Kind: 9})
	}
}

// The document's P1 and P2: all calls end without a panic, and twice with the same results.

func TestAnyTree(t *testing.T) {
	numbers := []uint64{0, 1, 2, 3, 4, 16, 17, 33, 1<<32 - 1, 1 << 32, math.MaxUint64}
	for i := range 2000 {
		m := newMaker(int64(i), 10)
		n := parsed(t, m.Program())
		for range m.Intn(4) {
			m.Change(&n)
		}
		s := pick(m, setup, setup, setup, api.Setup{P: pick(m, numbers...), N: m.Intn(15), T: m.Intn(4)})
		e := check.Check(s, n)
		if want := parse.Check(n); want != api.OK && s == setup && e != want {
			t.Errorf("%v: error %d, not %d", n, e, want)
		}
		judges(t, s, n, "any tree", e)
	}
	for _, kind := range []int{math.MinInt, -1, 0, api.NoBlock, api.NoBinary, 21, math.MaxInt} {
		judges(t, setup, api.Node{Kind: kind}, "a tree of another kind", api.ErrForm)
	}
}

// A program may have a long chain of procedures, each of which calls the one before it.
func TestLongChain(t *testing.T) {
	n := parsed(t, "def p0() { return 1; }")
	for i := range 4900 {
		name := "p" + decimal(i)
		def := sample.Copy(parsed(t, "def q() { return "+name+"(); }").Kids[0])
		def.Text = "p" + decimal(i+1)
		n.Kids = append(n.Kids, def)
	}
	judges(t, setup, n, "a long chain", api.OK)
	n.Kids = append(n.Kids, parsed(t, "out -p4900() to all;").Kids...)
	judges(t, setup, n, "a call of a long chain", api.OK)
	n.Kids[0].Kids[1].Text = "x"
	n.Kids[0].Kids[1].Kind = api.NoName
	n.Kids[0].Kids[1].Num = 0
	judges(t, setup, n, "a call of a long chain with an error at its end", api.ErrName)
}

// All functions of types accept any arguments.
func TestAnyTypes(t *testing.T) {
	numbers := []int{math.MinInt, -1, 0, 1, 2, 3, 16, 17, 32, 33, math.MaxInt}
	for i := range 20000 {
		m := newMaker(int64(i), 1)
		var l []api.Type
		for range m.Intn(5) {
			l = append(l, api.Type{Kind: pick(m, numbers...), Bits: pick(m, numbers...), Items: pick(m, numbers...), Secret: m.Intn(2) == 0})
		}
		l = append(l, l...)
		name := pick(m, "num", "bit", "word", "mux", "sort", "secret", "len", "", "x")
		bits := pick(m, numbers...)
		x, e := check.Call(name, bits, l)
		again, f := check.Call(name, bits, slices.Clone(l))
		if x != again || e != f || e != api.OK && (x != api.Type{}) {
			t.Error(name, bits, l, x, e, again, f)
		}
		check.List(l)
		if len(l) > 0 {
			check.Item(l[0])
			check.Unary("-", l[0])
			check.Binary("+", l[0], l[len(l)-1])
		}
	}
}

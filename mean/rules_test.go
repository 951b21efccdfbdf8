package mean_test

import (
	"math"
	"slices"
	"strconv"
	"testing"

	"junto/api"
	"junto/check"
	"junto/mean"
	"junto/sample"
)

// equal reports whether two trees are equal.
func equal(m, n api.Node) bool {
	return m.Kind == n.Kind && m.Text == n.Text && m.Num == n.Num && slices.EqualFunc(m.Kids, n.Kids, equal)
}

// The document's Rule 4: arguments are neither modified nor shared.

func TestArgumentsAreKept(t *testing.T) {
	for i := range 300 {
		m := newMaker(int64(i), 1000000)
		n := parsed(t, m.In()+m.Program())
		before := sample.Copy(n)
		slots, _ := check.Slots(setup, n)
		inputs := m.inputs(setup.P, slots)
		kept := slices.Clone(inputs)
		mean.Run(setup, n, inputs)
		mean.Work(setup, n)
		if !equal(n, before) || !slices.Equal(inputs, kept) {
			t.Fatal(n, before, inputs, kept)
		}
	}
	l := []uint64{1, 0, 1}
	mean.Flat(11, api.Type{Kind: api.TyBit, Items: 3}, l)
	mean.Numbers(11, api.Type{Kind: api.TyBit, Items: 3}, l)
	mean.Flat(11, api.Type{Kind: api.TyWord, Bits: 4, Items: 3}, l)
	mean.Numbers(11, api.Type{Kind: api.TyWord, Bits: 3}, l)
	if !slices.Equal(l, []uint64{1, 0, 1}) {
		t.Error(l)
	}
}

// spoil changes everything that outputs contain, and what may lie behind their ends.
func spoil(l []api.Told) {
	for _, x := range l {
		for i := range x.Values {
			x.Values[i] = 77
		}
		for i := range x.To {
			x.To[i] = 77
		}
		_ = append(x.Values, 88)
		_ = append(x.To, 88)
	}
	clear(l)
}

func TestResultsAreNew(t *testing.T) {
	n := parsed(t, "in a: num[3] from 1; in w: word 2 from 1; let b = a; out a to 1, 2; out b to 1, 2; out a to all; out w to all; out a[1] to 3; b[0] = 9; out b to 1; out sort([w, w]) to all;")
	inputs := []uint64{5, 6, 7, 0, 1}
	want := "to 1 2: 5 6 7; to 1 2: 5 6 7; 5 6 7; 0 1; to 3: 6; to 1: 9 6 7; 0 1 0 1"
	for range 2 {
		l, e := mean.Run(setup, n, inputs)
		if e != api.OK || spell(l) != want || !slices.Equal(inputs, []uint64{5, 6, 7, 0, 1}) {
			t.Error(spell(l), e, inputs)
		}
		for i := range l {
			spoil(l[i : i+1])
			if i+1 < len(l) && spell(l[i+1:]) != want[len(want)-len(spell(l[i+1:])):] {
				t.Error(i, spell(l[i+1:]))
			}
		}
	}
	for _, x := range []api.Type{{Kind: api.TyNum, Items: 3}, {Kind: api.TyBit, Items: 3}, {Kind: api.TyWord, Bits: 1, Items: 3}} {
		l := []uint64{1, 0, 1}
		flat, _ := mean.Flat(11, x, l)
		numbers, _ := mean.Numbers(11, x, l)
		clear(flat)
		if !slices.Equal(l, []uint64{1, 0, 1}) || !slices.Equal(numbers, l) {
			t.Error(x, l, numbers)
		}
		clear(numbers)
		if !slices.Equal(l, []uint64{1, 0, 1}) {
			t.Error(x, l)
		}
	}
}

// The document's P1 and P2: all calls end without a panic, and twice with the same results.

func TestAnyTree(t *testing.T) {
	numbers := []uint64{0, 1, 2, 3, 4, 16, 17, 33, 1<<32 - 1, 1 << 32, math.MaxUint64}
	for i := range 1500 {
		m := newMaker(int64(i), 300)
		n := parsed(t, m.Program())
		for range m.Intn(3) {
			m.Change(&n)
		}
		s := pick(m, modulo(7), modulo(7), modulo(7), api.Setup{P: pick(m, numbers...), N: m.Intn(15), T: m.Intn(4)})
		slots, want := check.Slots(s, n)
		inputs := m.inputs(7, slots)
		l, e := mean.Run(s, n, inputs)
		w, failed := mean.Work(s, n)
		if want != api.OK && (e != want || l != nil || w != 0) || e != failed {
			t.Error(n, l, e, w, failed, want)
		}
		again, e2 := mean.Run(s, n, inputs)
		if !same(l, again) || e != e2 {
			t.Error(n, l, e, again, e2)
		}
		for range 3 {
			if l, e := mean.Run(s, n, inputs[:m.Intn(len(inputs)+1)]); e != api.OK && l != nil {
				t.Error(n, l, e)
			}
		}
	}
	for _, kind := range []int{math.MinInt, -1, 0, api.NoBlock, 21, math.MaxInt} {
		fails(t, setup, api.Node{Kind: kind}, nil, api.ErrForm)
	}
}

func TestAnyValues(t *testing.T) {
	numbers := []int{math.MinInt, -1, 0, 1, 2, 3, 16, 17, 32, 33, math.MaxInt}
	for i := range 20000 {
		m := newMaker(int64(i), 1)
		x := api.Type{Kind: pick(m, 1, 2, 3, pick(m, numbers...)), Bits: pick(m, numbers...), Items: pick(m, numbers...), Secret: m.Intn(2) == 0}
		l := make([]uint64, pick(m, 0, 1, 2, 3, 16, 32, 48, 512))
		for i := range l {
			l[i] = pick(m, 0, 0, 0, 1, uint64(pick(m, numbers...)))
		}
		p := pick(m, 11, 65537, 1, m.Uint64())
		flat, e := mean.Flat(p, x, l)
		if e != api.OK && (e != api.ErrArg || flat != nil) {
			t.Error(p, x, l, flat, e)
		}
		back, e := mean.Numbers(p, x, l)
		if e != api.OK && (e != api.ErrArg || back != nil) {
			t.Error(p, x, l, back, e)
		}
	}
}

// A program may have a long chain of procedures, each of which calls the one before it.
func TestLongChain(t *testing.T) {
	n := parsed(t, "def p0(x: num) { return x; }")
	for i := range 2300 {
		def := sample.Copy(parsed(t, "def q(x: num) { return p"+strconv.Itoa(i)+"(x); }").Kids[0])
		def.Text = "p" + strconv.Itoa(i+1)
		n.Kids = append(n.Kids, def)
	}
	n.Kids = append(n.Kids, parsed(t, "out p2300(7) to all;").Kids...)
	l, e := mean.Run(setup, n, nil)
	if e != api.OK || spell(l) != "7" {
		t.Error(spell(l), e)
	}
	// These are the procedures, the output, and the call, the argument and the block of each call.
	if w, e := mean.Work(setup, n); e != api.OK || w != 2301+1+3*2301+1 {
		t.Error(w, e)
	}
}

package mean_test

import (
	"math"
	"strings"
	"testing"

	"junto/api"
	"junto/mean"
)

// P11.4

// fails checks the error of Run.
func fails(t *testing.T, s api.Setup, n api.Node, inputs []uint64, want api.Errno) {
	t.Helper()
	if l, e := mean.Run(s, n, inputs); e != want || l != nil {
		t.Errorf("Run with the inputs %d is %q with error %d, not %d", inputs, spell(l), e, want)
	}
}

// The errors of check.Check come first.
func TestCheckErrors(t *testing.T) {
	good := parsed(t, "in x: num from 1; out x to all;")
	for _, s := range []api.Setup{{}, {P: 12, N: 5, T: 1}, {P: 5, N: 5, T: 1}, {P: 17, N: 14, T: 1}, {P: 11, N: 4, T: 1}, {P: 11, N: 5, T: -1}, {P: 11, N: 0}} {
		fails(t, s, good, []uint64{1}, api.ErrArg)
		if w, e := mean.Work(s, good); w != 0 || e != api.ErrArg {
			t.Error(s, w, e)
		}
	}
	for _, x := range []struct {
		text string
		want api.Errno
	}{
		{"let a = [1]; let b = a[1]; out c to all;", api.ErrName}, {"let a = [1]; let b = a[1]; a = 1;", api.ErrType}, {"let a = [1]; let b = a[1]; let a = 1;", api.ErrTwice},
		{"let a = [1]; let b = a[1]; out a to 6;", api.ErrArg}, {"let a = [1]; let b = a[1]; for i = 1 to 2 { in x: num from 1; }", api.ErrState},
		{"in a: word 16[16] from 1; in b: bit from 1;", api.ErrLimit}, {spend(262145) + "out c to all;", api.ErrName},
	} {
		n := parsed(t, x.text)
		for _, inputs := range [][]uint64{nil, {1}, {257}} {
			fails(t, setup, n, inputs, x.want)
		}
		if w, e := mean.Work(setup, n); w != 0 || e != x.want {
			t.Error(x.text, w, e)
		}
	}
	for _, n := range []api.Node{{}, {Kind: api.NoBlock}, {Kind: api.NoProgram, Text: "x"}, {Kind: api.NoProgram, Kids: []api.Node{{}}}} {
		fails(t, setup, n, nil, api.ErrForm)
		if w, e := mean.Work(setup, n); w != 0 || e != api.ErrForm {
			t.Error(n, w, e)
		}
	}
}

func TestNumberOfInputs(t *testing.T) {
	for _, x := range []struct {
		text string
		want int
	}{
		{"out 1 to all;", 0}, {"in x: num from 1;", 1}, {"in x: bit[3] from 1;", 3}, {"in x: word 5[2] from 1; in y: num from 2;", 11}, {"in x: word 16[16] from 1;", 256},
		{"let a = [1]; in x: bit from 1; let b = a[1];", 1}, {spend(262144) + "in x: num[2] from 1;", 2},
	} {
		n := parsed(t, x.text)
		for count := range 260 {
			l, e := mean.Run(setup, n, make([]uint64, count))
			if (e == api.ErrArg) != (count != x.want) || e != api.OK && l != nil {
				t.Errorf("%q with %d inputs: %q with error %d", x.text, count, spell(l), e)
			}
		}
	}
}

func TestInputsAreElements(t *testing.T) {
	n := parsed(t, "in x: num from 1; in y: bit from 1; in z: word 2[2] from 1; out y to all;")
	for i := range 6 {
		for _, x := range []uint64{0, 1, 2, 255, 256} {
			inputs := make([]uint64, 6)
			inputs[i] = x
			if _, e := mean.Run(setup, n, inputs); e != api.OK {
				t.Error(inputs, e)
			}
		}
		for _, x := range []uint64{257, 258, 65537, 1 << 32, 1<<32 + 1, math.MaxUint64} {
			inputs := make([]uint64, 6)
			inputs[i] = x
			fails(t, setup, n, inputs, api.ErrArg)
		}
	}
	// ErrArg comes before the errors of the execution.
	for _, text := range []string{"in x: num from 1; let a = [1]; let b = a[1];", "in x: num from 1;" + spend(262144)} {
		fails(t, setup, parsed(t, text), []uint64{257}, api.ErrArg)
		fails(t, setup, parsed(t, text), nil, api.ErrArg)
	}
}

func TestInputsThatMustBeBits(t *testing.T) {
	for _, x := range []uint64{2, 3, 255, 256} {
		tells(t, setup, "in a: bit from 1; in b: bit[2] from 1; in c: word 3 from 1; in d: word 2[2] from 1; in e: num from 1; in f: num[2] from 1; out [a, !a] to all; out b to all; out c to all; out d to all; out e to all; out f to all; out num(c) to all;",
			[]uint64{x, x, 1, 1, x, 1, x, 1, 1, x, x, x, 1}, strings.ReplaceAll("0 1; 0 1; 1 0 1; 0 1 1 0; X; X 1; 5", "X", joined([]uint64{x})))
		tells(t, setup, "in a: bit from 1; let x = secret(3); if a { x = 4; } out x to all; out mux(a, 1, 2) to all;", []uint64{x}, "3; 2")
	}
}

func TestWork(t *testing.T) {
	for _, x := range []struct {
		text string
		want int
	}{
		{"", 0}, {"let a = 1;", 2}, {"in x: num from 1;", 1}, {"in x: word 3[4] from 1;", 1}, {"def f() { return 1; }", 1}, {"def f(x: num, y: num) { let z = 1; return 1; }", 1}, {"out 1 to all;", 2}, {"out 1 to 1, 2, 3;", 2},
		{"let a = -1;", 3}, {"let a = 1 + 2;", 4}, {"let a = [1, 2, 3];", 5}, {"let a = [1, 2, 3]; a = a;", 7}, {"let a = [1, 2, 3]; a[1] = 4;", 8}, {"let a = [1]; let b = a[0];", 7}, {"let a = (((1)));", 2},
		{"let a = num(1);", 3}, {"let a = bit(1);", 3}, {"let a = word(3, 1);", 4}, {"let a = mux(bit(1), 2, 3);", 6}, {"let a = secret(1);", 3}, {"let a = len([1, 2]);", 5}, {"let a = sort([word(1, 0)]);", 6},
		{"def f() { return 1; } let a = f();", 5}, {"def f() { let x = 1; return x + x; } let a = f();", 9}, {"def f(x: num, y: num) { return x; } let a = f(1, 2);", 7}, {"def f() { return 1; } let a = f() + f();", 9},
		{"def f() { return 1; } def g() { return f(); } let a = g();", 8}, {"if bit(1) { }", 4}, {"if bit(0) { }", 4}, {"if bit(1) { let a = 1; }", 6}, {"if bit(0) { let a = 1; }", 4}, {"if bit(1) { } else { let a = 1; }", 4}, {"if bit(0) { } else { let a = 1; }", 6},
		{"if secret(bit(1)) { }", 6}, {"if secret(bit(1)) { let a = 1; } else { let a = 1 + 2; }", 12}, {"if secret(bit(0)) { let a = 1; } else { let a = 1 + 2; }", 12}, {"if secret(bit(1)) { let b = bit(0); if b { let c = 2; } }", 15},
		{"for i = 1 to 3 { }", 6}, {"for i = 1 to 1 { }", 4}, {"for i = 3 to 1 { let a = 1; }", 3}, {"for i = 1 to 3 { let a = 1; }", 12}, {"for i = 1 + 1 to 3 { for j = i to 3 { } }", 5 + 2 + 6 + 3}, {"for i = 1 to 3 { if i == 2 { out i to all; } }", 3 + 3*6 + 2},
	} {
		visits(t, x.text, x.want)
	}
	for _, n := range []int{3, 4, 5, 258, 259, 260, 261, 262, 1000, 1026, 1027, 1028, 65539, 100000, 262143, 262144} {
		visits(t, spend(n), n)
	}
}

// A node is counted when its visit starts: whether 2^18 nodes can be visited is the question before anything else.
func TestLimit(t *testing.T) {
	for _, x := range []struct {
		before, text string
		nodes        int
	}{
		{"", "let b = 1;", 2}, {"", "out 1 to all;", 2}, {"", "in x: num from 1;", 1}, {"", "def f() { return 1; }", 1}, {"", "let b = word(3, 1);", 4}, {"", "if bit(1) { let b = 1; }", 6},
		{"", "if bit(0) { }", 4}, {"", "if secret(bit(0)) { }", 6}, {"", "for i = 1 to 1 { }", 4}, {"", "let b = [1, 2][1];", 6}, {"def f() { let x = 1; return 2; }", "let b = f();", 6}, {"let b = [1];", "b[0] = 2;", 3},
	} {
		used, e := mean.Work(setup, parsed(t, x.before))
		if e != api.OK {
			t.Error(x.before, e)
		}
		visits(t, x.before+spend(api.MaxWork-used-x.nodes)+x.text, api.MaxWork)
		for short := 1; short <= x.nodes; short++ {
			n := parsed(t, x.before+spend(api.MaxWork-used-x.nodes+short)+x.text)
			if w, e := mean.Work(setup, n); w != 0 || e != api.ErrLimit {
				t.Error(x.text, short, w, e)
			}
		}
	}
	gives(t, api.ErrRange, spend(api.MaxWork-7)+"let a = [1]; let b = a[1];")
	gives(t, api.ErrLimit, spend(api.MaxWork-6)+"let a = [1]; let b = a[1];", "for i = 0 to 256 { for j = 0 to 256 { for k = 0 to 256 { } } }", spend(api.MaxWork+1))
	// A program that calls procedures again and again visits very many nodes, or too many.
	gives(t, api.ErrLimit, "def a() { for i = 1 to 200 { let x = 1; } return 1; } def b() { for i = 1 to 200 { let x = a(); } return 1; } for i = 1 to 200 { let x = b(); }")
}

func TestNumberOfOutputs(t *testing.T) {
	many := "for i = 1 to 16 { for j = 1 to 256 { out i to all; } }"
	l, e := mean.Run(setup, parsed(t, many), nil)
	if e != api.OK || len(l) != 4096 {
		t.Error(len(l), e)
	}
	gives(t, api.ErrLimit, many+"out 1 to all;", many+"out [1, 2] to 1, 3;", "for i = 1 to 17 { for j = 1 to 256 { out i to all; } }")
	// An output is made when its expression has been evaluated.
	gives(t, api.ErrRange, many+"let a = [1]; out a[1] to all;")
	gives(t, api.ErrLimit, many+"let a = [1]; out a to all; out a[1] to all;")
	gives(t, api.ErrLimit, spend(api.MaxWork-3-16*(1+3+256*3)+1)+many)
	visits(t, many+"let a = 1;", 3+16*(1+3+256*3)+2)
}

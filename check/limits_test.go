package check_test

import (
	"strings"
	"testing"

	"junto/api"
	"junto/check"
)

// P10.4: the number of visited nodes

// doubling declares procedures d0 to d(n-1), each of which calls the one before it twice.
func doubling(n int) string {
	text := "def d0() { return 1; } "
	for i := 1; i < n; i++ {
		text += strings.ReplaceAll("def d@() { return "+called(i-1)+" + "+called(i-1)+"; } ", "@", decimal(i))
	}
	return text
}

func called(i int) string {
	return "d" + decimal(i) + "()"
}

// weight returns how many nodes are visited for a call of one of these procedures: the call, the block, and a number or
// an operator with two calls.
func weight(i int) int {
	if i == 0 {
		return 3
	}
	return 3 + 2*weight(i-1)
}

// used returns a program that visits as many nodes as are given, with sums of calls.
func used(nodes int) string {
	const procedures = 16
	text := doubling(procedures)
	nodes -= procedures
	for i := procedures - 1; i >= 0; i-- {
		// Besides the call, an if visits itself, the operator, the number and both blocks.
		for cost := weight(i) + 5; nodes >= cost; nodes -= cost {
			text += "if " + called(i) + " == 1 { } "
		}
	}
	for nodes >= 4 {
		text += "for v = 1 to 1 { } "
		nodes -= 4
	}
	return text + repeated(nodes, "", func(i int) string { return "def e" + decimal(i) + "() { return f; } " })
}

func TestUsed(t *testing.T) {
	judges(t, setup, parsed(t, used(api.MaxWork)), "a program with as much work as is allowed", api.OK)
	for _, item := range []string{"let a = 1;", "def f() { return 1; }", "in a: num from 1;", "in a: num from 9;", "let a = b;"} {
		judges(t, setup, parsed(t, used(api.MaxWork)+item), "a program with too much work and "+item, api.ErrLimit)
	}
	judges(t, setup, parsed(t, used(api.MaxWork-1)+"in a: num from 1;"), "a program with an item more", api.OK)
	judges(t, setup, parsed(t, used(api.MaxWork-1)+"in a: num from 9;"), "a program with a wrong item more", api.ErrArg)
}

// Each text has an error that is found when this many nodes have been visited.
func TestWorkBeforeErrors(t *testing.T) {
	for _, x := range []struct {
		nodes int
		e     api.Errno
		text  string
	}{
		{1, api.ErrArg, "in a: word 8[4] from 0;"},
		{2, api.ErrName, "let a = b;"},
		{2, api.ErrArg, "out 1 to 1, 2, 3, 3;"},
		{2, api.ErrName, "b = 1;"},
		{3, api.ErrName, "b[0] = 1;"},
		{1, api.ErrTwice, "def q(a: num, b: word 2, a: num) { let x = 1; return x; }"},
		{3, api.ErrName, "let a = b + 1;"},
		{4, api.ErrName, "let a = 1 + b;"},
		{5, api.ErrName, "let a = -[1, b];"},
		{8, api.ErrType, "let a = [1][1 == 1] + b;"},
		{2, api.ErrType, "let a = num();"},
		{2, api.ErrName, "let a = q();"},
		{4, api.ErrName, "let a = q(1, 2);"},
		{4, api.ErrName, "let a = word(3, b);"},
		{4, api.ErrType, "let a = word(33, 1);"},
		{2, api.ErrType, "if 1 { }"},
		{6, api.ErrState, "if 1 == 1 { in a: num from 1; }"},
		{7, api.ErrName, "if 1 == 1 { let a = b; }"},
		{8, api.ErrName, "if 1 == 1 { } b = 1;"},
		{8, api.ErrName, "if 1 == 1 { } else { b = 1; }"},
		{6, api.ErrName, "for i = 0 to 1 { b = 1; }"},
		{6, api.ErrName, "for i = 0 to 1 { } b = 1;"},
		{3, api.ErrType, "if -1 { }"},
		{5, api.ErrName, "def q() { return b; } let x = q();"},
		{9, api.ErrName, "def q(a: num, b: num) { let c = a; return d; } let x = q(1, 2);"},
		{7, api.ErrName, "def q() { return 1; } let x = q() + b;"},
		{9, api.ErrName, "def q() { b = 1; return 1; } def r() { return q(); } let x = r();"},
		{3, api.ErrType, "def q(a: num) { return b; } let x = q();"},
		{4, api.ErrType, "def q() { return b; } let x = q(1);"},
	} {
		for less := range 3 {
			spare := x.nodes - less
			want := x.e
			if less > 0 {
				want = api.ErrLimit
			}
			if e := check.Check(setup, parsed(t, used(api.MaxWork-spare)+x.text)); e != want {
				t.Errorf("%s after all but %d nodes: error %d, not %d", x.text, spare, e, want)
			}
		}
		gives(t, x.e, x.text)
	}
}

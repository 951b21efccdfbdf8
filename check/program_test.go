package check_test

import (
	"testing"

	"junto/api"
)

// P10.4

func TestSetup(t *testing.T) {
	bad := []api.Setup{
		{}, {P: 2, N: 1}, {P: 4, N: 1}, {P: 9, N: 5, T: 1}, {P: 1, N: 1}, {P: 0, N: 1}, {P: 65535, N: 5}, {P: 65539, N: 5}, {P: 65537 * 3, N: 5}, {P: 1<<32 + 15, N: 5}, {P: 1<<64 - 59, N: 5}, {P: 257 * 251, N: 5},
		{P: 257, N: 0}, {P: 257, N: -1}, {P: 257, N: 14}, {P: 257, N: 1 << 62}, {P: 3, N: 3}, {P: 5, N: 5, T: 1}, {P: 11, N: 11}, {P: 11, N: 12}, {P: 13, N: 13, T: 3},
		{P: 257, N: 5, T: -1}, {P: 257, N: 5, T: 2}, {P: 257, N: 4, T: 1}, {P: 257, N: 8, T: 2}, {P: 257, N: 13, T: 4}, {P: 257, N: 13, T: 1 << 62}, {P: 257, N: 13, T: 1<<62 + 1}, {P: 257, N: 5, T: -1 << 63}, {P: 257, N: 1, T: 1 << 62},
	}
	for _, s := range bad {
		judges(t, s, parsed(t, "let a = 1;"), "a program with a bad setup", api.ErrArg)
		judges(t, s, api.Node{}, "no program with a bad setup", api.ErrArg)
		judges(t, s, parsed(t, "let a = b;"), "a wrong program with a bad setup", api.ErrArg)
	}
	good := []api.Setup{{P: 3, N: 1}, {P: 3, N: 2}, {P: 5, N: 4}, {P: 7, N: 5, T: 1}, {P: 65537, N: 13, T: 3}, {P: 65521, N: 9, T: 2}, {P: 17, N: 13}, {P: 13, N: 12, T: 2}, {P: 251, N: 5}}
	for _, s := range good {
		judges(t, s, parsed(t, "let a = 1;"), "a program with a good setup", api.OK)
		judges(t, s, api.Node{}, "no program", api.ErrForm)
	}
}

// All numbers up to MaxPrime and beyond, against a sieve.
func TestSetupPrimes(t *testing.T) {
	n := parsed(t, "")
	composite := make([]bool, 70000)
	for d := 2; d*d < len(composite); d++ {
		for m := d * d; m < len(composite); m += d {
			composite[m] = true
		}
	}
	for p := range composite {
		want := api.ErrArg
		if p >= 3 && p <= 65537 && !composite[p] {
			want = api.OK
		}
		judges(t, api.Setup{P: uint64(p), N: 2}, n, "an empty program", want)
	}
}

// The errors of parse.Check come before all others of the program.
func TestForm(t *testing.T) {
	wrong := parsed(t, "let a = b;")
	wrong.Kids = append(wrong.Kids, api.Node{Kind: api.NoNumber})
	judges(t, setup, wrong, "a program with a number as an item", api.ErrForm)
	judges(t, setup, api.Node{Kind: api.NoBlock}, "a block", api.ErrForm)
	deep := parsed(t, "let a = b;")
	for range 60 {
		deep.Kids[0].Kids[0] = api.Node{Kind: api.NoUnary, Text: "-", Kids: []api.Node{deep.Kids[0].Kids[0]}}
	}
	judges(t, setup, deep, "a program that is too deep", api.ErrLimit)
	many := parsed(t, "let a = b;")
	for len(many.Kids) < 10001 {
		many.Kids = append(many.Kids, many.Kids[0])
	}
	judges(t, setup, many, "a program with too many nodes", api.ErrLimit)
}

func TestVisible(t *testing.T) {
	judges(t, setup, parsed(t, ""), "an empty program", api.OK)
	accepts(t, `
let a = 1; let b = a; if a == b { let c = a; let d = c; if a == d { let e = c; } let e = 2; } let c = 2; let d = 1; let e = 3;
for i = 0 to 2 { let a = i; for j = i to a { let b = j; } for j = a to i { let b = j; } } for i = 1 to 2 { let a = i; } let i = 1; let a = i; let j = 2; let b = 3;
if 1 == 1 { let a = 1; } else { let a = 2; } for a = 1 to 2 { } let a = 3;
def f() { return 1; } def g() { return f(); } let x = g() + f();
if 1 == 1 { if 2 == 2 { let a = 1; } let a = 2; let b = 1; } else { let b = 2; let a = 3; }
`)
	gives(t, api.ErrName, `
let a = b;
let a = a;
a = 1;
a[0] = 1;
let b = a; let a = 1;
if a { }
for i = a to 1 { }
for i = 1 to a { }
for i = i to 1 { }
for i = 1 to i { }
out a to all;
if 1 == 1 { let a = 1; } let b = a;
if 1 == 1 { let a = 1; } else { let b = a; }
if 1 == 1 { let a = 1; if a == 1 { let b = 1; } a = b; }
if 1 == 1 { let a = 1; if a == 1 { let b = 1; } a = 2; } a = 1;
for i = 0 to 1 { } let a = i;
for i = 0 to 1 { let b = i; } let a = b;
for i = 0 to 1 { let b = 1; } for i = 0 to 1 { let c = b; }
let a = f(1);
let a = f();
let a = f(1); def f(x: num) { return x; }
let a = 1; let b = a(1);
let a = 1; let b = a();
let a = mux;
let a = len;
sort = 1;
secret[0] = 1;
def f() { return 1; } let a = f;
def f() { return 1; } f = 1;
def f() { return 1; } f[0] = 1;
def f() { return 1; } let a = f[0];
for i = 0 to 1 { let a = i(); }
in x: num from 1; let y = x(1);
let a = nums(1);
def f(a: num) { return a(1); } let x = f(1);
`)
	gives(t, api.ErrTwice, `
let a = 1; let a = 2;
in a: num from 1; in a: num from 1;
let a = 1; in a: num from 1;
in a: num from 1; let a = 1;
let a = 1; for a = 0 to 1 { }
let a = 1; if a == 1 { let a = 2; }
let a = 1; if a == 2 { } else { let a = 2; }
for a = 0 to 1 { let a = 1; }
for a = 0 to 1 { for a = 0 to 1 { } }
if 1 == 1 { let a = 1; if 1 == 1 { let a = 1; } }
let a = 1; def a() { return 1; }
def a() { return 1; } def a() { return 1; }
def a() { return 1; } let a = 1;
def a() { return 1; } in a: num from 1;
def a() { return 1; } for a = 0 to 1 { }
in a: num from 1; def a() { return 1; }
`)
	for _, name := range []string{"mux", "sort", "secret", "len"} {
		gives(t, api.ErrTwice, "in "+name+": num from 1;", "let "+name+" = 1;", "for "+name+" = 0 to 1 { }", "def "+name+"() { return 1; }", "def f("+name+": num) { return 1; }", "def f() { let "+name+" = 1; return 1; } let a = f();")
	}
}

// In a procedure, the visible names are the parameters, those that it declares, and the procedures before it.
func TestVisibleInProcedures(t *testing.T) {
	accepts(t, `
let a = 1; def f(a: num) { let b = a; return b; } let b = f(a);
let a = 1; let b = 2; def f(a: num) { let b = a; return b; } let c = f(b);
def f() { let f = 1; return f; } let a = f();
def f(h: num) { let g = h; return g; } def g() { return f(1); } def h() { return g() + f(2); } let a = h();
def f() { for i = 0 to 1 { let a = i; } let i = 1; let a = i; return a; } let i = f(); let a = f();
def f(a: num) { a = 2; let b = a; b = 3; return a + b; } for a = 0 to f(1) { let b = f(a); }
def f() { if 1 == 1 { let a = 1; } let a = 2; return a; } let x = f();
def f(a: num) { return a; } def g(a: num) { let b = f(a); return f(b); } let a = g(f(g(2)));
let a = 1; def f(b: num) { return b; } if a == 1 { let c = f(a); let b = c; b = a; a = b; }
def f() { return b; }
def f() { return f(); }
def f() { in x: num from 9; return x + [1]; }
def f() { let a = 1; let a = 1; return g(a); }
def f() { out 1 to 9; def g() { return 1; } return 1; }
def f(x: num) { let g = 1; return g + x; } def g(x: num) { return f(x); } let y = g(f(1));
`)
	gives(t, api.ErrName, `
let a = 1; def f() { return a; } let b = f();
let a = 1; def f() { a = 2; return 1; } let b = f();
let a = [1]; def f() { a[0] = 2; return 1; } let b = f();
def f() { return f(); } let a = f();
def f() { return g(); } def g() { return 1; } let a = f();
def f() { return g(); } def g() { return f(); } let a = g();
def f() { if 1 == 1 { let a = 1; } return a; } let b = f();
def f(a: num) { return 1; } let b = f(1) + a;
def f() { let a = 1; return a; } let b = f(); let c = a;
def f() { return 1; } def g() { return f; } let a = g();
def f() { return 1; } def g() { f = 1; return 1; } let a = g();
for i = 0 to 1 { let a = f(); } def f() { return 1; }
def f() { return i; } for i = 0 to 1 { let a = f(); }
def f(a: num) { return a; } def g(b: num) { return f(b) + a; } let x = g(1);
def f(a: num) { let b = 1; return a; } def g(a: num) { return f(a) + b; } let x = g(1);
def f() { return f; } let a = f();
def f() { f = 1; return 1; } let a = f();
def f() { for i = 0 to 1 { } return i; } let a = f();
`)
	gives(t, api.ErrTwice, `
def f(a: num) { let a = 1; return 1; } let b = f(1);
def f(a: num) { for a = 0 to 1 { } return 1; } let b = f(1);
def f() { return 1; } def g() { let f = 1; return 1; } let b = g();
def f() { let a = 1; let a = 1; return 1; } let b = f();
def f(a: num) { if 1 == 1 { let a = 1; } return 1; } let b = f(1);
def f() { return 1; } def g() { for f = 0 to 1 { } return 1; } let b = g();
`)
}

func TestExpressions(t *testing.T) {
	accepts(t, `
let a = -1 + 2 * 3 - 4;
let w = word(4, 1); let v = !w & w | word(4, 2) ^ w * w; let b = w < v & !(w == v);
let l = [1, 2]; let x = l[0] + [3, 4][l[1]]; let w = word(3, x)[x];
let a = [word(2, 1), word(2, 3)]; let b = sort(a)[1][0] ^ bit(1);
let a = num(word(3, 1)) + num(1 == 1) + num(2) + len([1]) + len(word(4, 2));
let a = mux(1 == 1, [1, 2], [3, 4]); let b = secret(a)[1]; let c = secret(1) + b;
let a = word(16, 1)[4294967295]; let b = 4294967295;
in x: word 4 from 1; let l = [1]; let a = l[len(x)] + len([x]);
let a = [1 == 1][0] == (2 < 3);
`)
	gives(t, api.ErrType, `
let a = -(1 == 1);
let a = !1;
let a = 1 & 2;
let a = 1 + (1 == 1);
let a = word(3, 1) + word(4, 1);
let a = [1] + [1];
let a = (1 == 1) < (1 == 1);
let a = 1[0];
let a = (1 == 1)[0];
let a = [[1]];
let a = [1, 1 == 1];
let a = [word(2, 1), word(3, 1)];
let a = [1][1 == 1];
let a = [1][word(2, 1)];
let a = [1][[1]];
let a = [1][secret(0)];
let a = word(4, 1)[secret(0)];
in x: num from 1; let a = [1, 2][x];
in x: num from 1; let a = x == 1;
in x: num from 1; let a = 1 < x;
let a = bit(secret(1));
let a = word(3, secret(1));
let a = sort([1]);
let a = sort(word(3, 1));
let a = len(1);
let a = len(1 == 1);
let a = num([1]);
let a = bit([1 == 1]);
let a = bit(word(1, 1));
let a = mux(1, 2, 3);
let a = mux(1 == 1, 2, [2]);
let a = mux(1 == 1, word(1, 1), 1 == 1);
let a = num();
let a = num(1, 1);
let a = bit();
let a = mux(1 == 1, 1);
let a = secret();
let a = len([1], [1]);
let a = sort();
`)
	gives(t, api.ErrType, "let a = ["+ones(33)+"];")
	accepts(t, "let a = ["+ones(32)+"];")
}

// The first argument of word is a number that is written there.
func TestWordOf(t *testing.T) {
	accepts(t, `
let a = word(1, 1);
let a = word(16, 1);
let a = word(0003, word(3, 1));
let a = word((4), 1 == 1);
let a = word(8, secret(word(2, 1)));
`)
	gives(t, api.ErrType, `
let a = word();
let a = word(1);
let a = word(1, 1, 1);
let a = word(0, 1);
let a = word(17, 1);
let a = word(4294967295, 1);
let a = word(-1, 1);
let a = word(1 + 1, 1);
let k = 3; let a = word(k, 1);
let a = word(num(3), 1);
let a = word([3], 1);
let a = word(3, [1]);
let a = word(1 == 1, 1);
let a = word(word(3, 1), 1);
let a = num(3, 1);
let a = bit(1, 1);
`)
	gives(t, api.ErrName, `
let a = word(x, 1);
let a = word(x);
let a = word(3, x);
let a = word(17, x);
let a = word(1 + 1, x);
`)
}

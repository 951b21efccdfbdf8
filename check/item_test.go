package check_test

import (
	"testing"

	"junto/api"
)

// P10.4, item by item

// parameters returns the texts of n parameters.
func parameters(n int) string {
	return repeated(n, ", ", func(i int) string { return "a" + decimal(i) + ": num" })
}

func ones(n int) string {
	return repeated(n, ", ", func(i int) string { return "1" })
}

func TestIn(t *testing.T) {
	accepts(t, `
in a: num from 1; in b: bit from 5; in c: word 1 from 2; in d: word 16[15] from 3;
in a: num[32] from 4; in b: bit[1] from 1; in c: word 8[0] from 1; let d = 1; in e: num from 2;
`)
	gives(t, api.ErrState, `
if 1 == 1 { in a: num from 1; }
if 1 == 1 { } else { in a: num from 1; }
for i = 0 to 1 { in a: num from 1; }
def f() { in a: num from 1; return 1; } let a = f();
for i = 0 to 1 { if 1 == 1 { in a: num from 1; } }
let a = 1; if a == 1 { in a: word 17 from 9; }
def f() { if 1 == 1 { in a: num from 1; } return 1; } let a = f();
in a: num[32] from 1; for i = 0 to 1 { in a: word 0[33] from 0; }
`)
	gives(t, api.ErrTwice, `
let a = 1; in a: word 17 from 1;
let a = 1; in a: num from 6;
in a: word 16[16] from 1; in a: num from 1;
`)
	gives(t, api.ErrArg, `
in a: num from 0;
in a: num from 6;
in a: num from 4294967295;
in a: num from 65537;
in a: num[33] from 1;
in a: bit[33] from 1;
in a: word 0 from 1;
in a: word 17 from 1;
in a: word 8[33] from 1;
in a: word 4294967295 from 1;
in a: num[4294967295] from 1;
in a: word 16[16] from 1; in b: num from 6;
in a: word 16[16] from 1; in b: word 17 from 1;
`)
	gives(t, api.ErrLimit, `
in a: word 16[17] from 1;
in a: word 16[16] from 1; in b: bit from 2;
in a: num[32] from 1; in b: word 15[15] from 2;
in a: word 16[32] from 1;
`)
	accepts(t, `
in a: num[32] from 1; in b: word 14[16] from 2;
in a: word 16[16] from 1;
in a: word 15[17] from 1; in b: num from 2;
`)
	gives(t, api.ErrLimit, `
in a: word 15[17] from 1; in b: num from 2; in c: num from 3;
in a: num[32] from 1; in b: word 14[16] from 2; in c: bit from 1;
`)
}

// An input is secret, and so is what is computed from it.
func TestInIsSecret(t *testing.T) {
	outputs(t, "in a: num from 1; in b: bit[2] from 2; in c: word 3 from 1; in d: word 5[4] from 1; out a to all; out b to 1; out c to 2; out d to 3;", "secret num", "secret bit[2]", "secret word 3", "secret word 5[4]")
	outputs(t, "in a: num from 1; in b: bit[2] from 2; out a + 1 to all; out b[0] to all; out !b[1] to all; out [1, a] to all; out len(b) to all; out num(b[0]) to all; out mux(b[0], 1, 2) to all; out -a to all; out word(4, b[1]) to all;",
		"secret num", "secret bit", "secret bit", "secret num[2]", "num", "secret num", "secret num", "secret num", "secret word 4")
}

func TestPartiesOfSetup(t *testing.T) {
	for parties := 1; parties <= 13; parties++ {
		s := api.Setup{P: 257, N: parties}
		for party := range 20 {
			want := api.ErrArg
			if 1 <= party && party <= parties {
				want = api.OK
			}
			for _, text := range []string{"in a: num from " + decimal(party) + ";", "out 1 to " + decimal(party) + ";"} {
				judges(t, s, parsed(t, text), text, want)
			}
		}
	}
}

func TestLet(t *testing.T) {
	outputs(t, "let a = 1; let b = secret(a); let c = a == 1; let d = [b, a]; let e = d[0]; let f = word(3, a); let g = [f]; out a to all; out b to all; out c to all; out d to all; out e to all; out f to all; out g to all;",
		"num", "secret num", "bit", "secret num[2]", "secret num", "word 3", "word 3[1]")
	gives(t, api.ErrName, `
let a = 1; let a = b;
let a = 1; let a = a + b;
`)
	gives(t, api.ErrType, "let a = 1; let a = a + [a];")
	gives(t, api.ErrTwice, "let a = 1; let a = a;")
}

const choose = "in c: bit from 1; "

// Variables that are declared in a block of an if with a secret condition are secret, at any depth and in procedures.
func TestLetInSecretIf(t *testing.T) {
	accepts(t, `
in c: bit from 1; if c { let y = 1; y = 2; y = num(c); }
in c: bit from 1; if c { } else { let y = 1; y = num(c); }
in c: bit from 1; if c { if 1 == 1 { let y = 1; y = 2; } }
in c: bit from 1; if c { for i = 0 to 1 { let y = i; y = num(c); } }
in c: bit from 1; def f(a: num) { let y = a; y = 2; return y; } if c { let x = f(1); x = num(c); }
in c: bit from 1; def f() { let y = 1; y = secret(2); return y; } def g() { return f(); } if c { let x = g(); }
in c: bit from 1; if 1 == 1 { if c { } else { if 2 == 2 { } else { let y = 1; y = 2; } } }
in c: bit from 1; let z = secret(1); if c { let y = 1; z = y; }
`)
	gives(t, api.ErrType, `
in c: bit from 1; if c { let y = 1; let z = [1, 2][y]; }
in c: bit from 1; if c { let y = 1; for i = 0 to y { } }
in c: bit from 1; if c { let y = 1; if y == 1 { } }
in c: bit from 1; def f() { let y = 1; return [1, 2][y]; } if c { let x = f(); }
in c: bit from 1; if c { for i = 0 to 1 { let y = i; let x = y < 1; } }
in c: bit from 1; if c { if 1 == 1 { let y = 1; let x = y < 1; } }
`)
	accepts(t, `
in c: bit from 1; if c { let y = [1, 2][0] + [3][len([1])]; for i = 0 to 2 { let z = [y][i]; } }
in c: bit from 1; def f() { return 0; } if c { let x = [1, 2][f()]; for i = f() to 1 { } if f() == 1 { } }
in c: bit from 1; def f(a: num) { return [1, 2][a]; } if c { let x = f(1); }
in c: bit from 1; def f() { let y = 1; return [1, 2][y]; } if c { } let x = f();
in c: bit from 1; if c { } let y = 1; y = 2; for i = 0 to y { } let z = 1 == y;
`)
	gives(t, api.ErrType, `
in c: bit from 1; let y = 1; if c { } y = num(c);
in c: bit from 1; if 1 == 1 { let y = 1; y = num(c); }
in c: bit from 1; if 1 == 1 { if c { } let y = 1; y = num(c); }
in c: bit from 1; def f() { let y = 1; y = secret(1); return 1; } let x = f(); if c { }
in c: bit from 1; if c { if 1 == 1 { } let y = 1; let z = y == 1; }
in c: bit from 1; if c { if c { } let y = 1; let z = y == 1; }
in c: bit from 1; if c { if 1 == 1 { } } else { let y = 1; let z = y == 1; }
`)
}

func TestAssignments(t *testing.T) {
	accepts(t, `
let a = 1; a = 2; a = a + 1;
let a = [1, 2]; a[0] = 3; a[a[0]] = a[1]; a = [4, 5];
let a = secret(1); a = 2; a = secret(3);
let a = secret([1]); a[0] = 1; a[0] = secret(1); a = [2]; a = [secret(3)];
in x: num from 1; x = 2; x = x * x;
in x: word 3[2] from 1; x[1] = word(3, 1); x = sort(x); x[0] = x[1] + word(3, 2);
let a = 1 == 1; for i = 0 to 1 { a = !a; }
for i = 0 to 1 { let j = i; j = 2; }
let a = [1]; a[4294967295] = 1;
def f(a: num, b: word 2[2]) { a = 2; b[a] = b[1]; b = sort(b); return a; } let x = f(1, [word(2, 1), word(2, 2)]); x = 2;
`)
	gives(t, api.ErrName, `
a = b;
a[0] = b;
a[b] = 1;
let a = 1; a = b;
let a = [1]; a[0] = b;
let a = [1]; a[b] = 1;
for i = 0 to 1 { i = b; }
b = 1;
b[0] = 1;
def f() { return 1; } f = 1;
def f() { return 1; } f[0] = 1;
len = 1;
mux[1] = 1;
b[1 == 1] = 1;
b[0] = [1];
`)
	gives(t, api.ErrType, `
a = 1 + [1];
a[1 + [1]] = 1;
a[0] = 1 + [1];
for i = 0 to 1 { i = 1; }
for i = 0 to 1 { i = 1 == 1; }
for i = 0 to 1 { i[0] = 1; }
for i = 0 to 1 { for j = 0 to 1 { i = j; } }
def f() { for i = 0 to 1 { i = 1; } return 1; } let a = f();
let a = 1; a = 1 == 1;
let a = word(3, 1); a = word(4, 1);
let a = 1; a = [1];
let a = [1]; a = 1;
let a = [1, 2]; a = [1];
let a = 1 == 1; a = word(1, 1);
let a = 1; a[0] = 1;
let a = word(3, 1); a[0] = 1 == 1;
in x: word 3 from 1; x[0] = x[1];
let a = [1]; a[0] = [1];
let a = [1]; a[0] = 1 == 1;
let a = [word(3, 1)]; a[0] = word(4, 1);
let a = [1]; a[[0]] = 1;
let a = [1]; a[1 == 1] = 1;
let a = [1]; a[word(2, 1)] = 1;
`)
	for _, x := range []string{"let a = secret([1]); ", "in a: num[2] from 1; "} {
		gives(t, api.ErrType, x+"a[secret(0)] = 1;", x+"a[a[0]] = 1;", x+"a[num(a[0])] = secret(1);", x+"a[0] = 1 == 1;")
	}
}

// What is public must not depend on a secret, neither by its value nor by whether it is assigned.
func TestFlow(t *testing.T) {
	gives(t, api.ErrType, `
let a = 1; a = secret(1);
let a = [1]; a[0] = secret(1);
let a = [1]; a = [secret(1)];
let a = [1]; a = secret([1]);
in c: bit from 1; let a = 1; a = num(c);
in c: bit from 1; let a = 1 == 1; a = c;
in c: bit from 1; let a = 1; a = mux(c, 1, 2);
in c: bit from 1; let a = 1; if c { a = 2; }
in c: bit from 1; let a = 1; if c { } else { a = 2; }
in c: bit from 1; let a = [1]; if c { a[0] = 2; }
in c: bit from 1; let a = 1; if c { if 1 == 1 { a = 2; } }
in c: bit from 1; let a = 1; if 1 == 1 { if c { a = 2; } }
in c: bit from 1; let a = 1; if c { for i = 0 to 1 { a = i; } }
in c: bit from 1; if 1 == 1 { let a = 1; if c { a = 2; } }
in c: bit from 1; let a = 1; if c { if c { } a = 1; }
in c: bit from 1; let a = 1; if c { if 1 == 1 { } else { } a = 1; }
in c: bit from 1; let a = 1; if secret(1 == 1) { a = 1; }
in c: bit from 1; let a = [1]; if c { } else { a = [2]; }
for i = 0 to 1 { let a = i; a = secret(i); }
in c: bit from 1; def f(a: num) { a = 2; return a; } if c { let x = f(1); }
in c: bit from 1; def f(a: num[1]) { a[0] = 2; return a; } if c { let x = f([1]); }
in c: bit from 1; def f(a: num) { a = 2; return a; } def g(a: num) { return f(a); } if c { let x = g(1); }
def f(a: num) { a = secret(1); return a; } let x = f(1);
def f(a: num, b: num) { a = b; return a; } let x = f(1, secret(2));
in c: bit from 1; def f(a: num, c: bit) { if c { a = 1; } return a; } let x = f(1, c);
in c: bit from 1; let x = 1; def f(a: num) { if secret(1 == 1) { a = 1; } return a; } x = f(1);
`)
	accepts(t, `
in c: bit from 1; let a = secret(1); if c { a = 2; if 1 == 1 { a = num(c); } } else { a = 3; }
in c: bit from 1; let a = secret([1]); if c { a[0] = 2; } else { a = [3]; }
in c: bit from 1; let a = 1; if 1 == 1 { a = 2; } else { a = 3; }
in c: bit from 1; let a = 1; if c { } a = 2;
in c: bit from 1; let a = 1; if 1 == 1 { if c { } a = 2; } a = 3;
in c: bit from 1; def f(a: num) { a = 2; return a; } if c { let x = f(secret(1)); let y = f(num(c)); }
in c: bit from 1; def f(a: num) { a = 2; return a; } if c { } let x = f(1); x = 2;
def f(a: num, b: num) { a = b; return a; } let x = f(1, 2); let y = f(secret(1), secret(2)); let z = f(secret(1), 2);
in c: bit from 1; def f(a: num, c: bit) { if c { a = 1; } return a; } let x = f(1, 1 == 1); let y = f(secret(1), c); let z = f(secret(1), 1 == 1);
in c: bit from 1; def f(a: num) { a = 2; return 1 == a; } if f(1) { let x = 1; x = 2; } if secret(f(1)) { }
in c: bit from 1; def f(a: num) { a = 2; return 1 == a; } if secret(f(1)) { } else { }
`)
}

func TestIf(t *testing.T) {
	accepts(t, `
if 1 == 1 { }
if 1 == 1 { } else { }
in c: bit from 1; if c { }
in c: bit from 1; if c { } else { if !c { } }
let a = [1 == 1]; if a[0] { }
in c: bit from 1; if bit(1) ^ c { }
`)
	gives(t, api.ErrType, `
if 1 { }
if word(1, 1) { }
if [1 == 1] { }
if 1 + [1] { }
in c: bit from 1; if [c] { }
in c: bit from 1; if num(c) { }
if 1 { let a = b; }
if 1 { } else { let a = b; }
in c: bit[2] from 1; if c { }
`)
	gives(t, api.ErrName, `
if a { let b = [[1]]; }
if 1 == 1 { let b = a; } else { let b = [[1]]; }
`)
	gives(t, api.ErrType, `
if 1 == 1 { let b = [[1]]; } else { let b = a; }
if 1 == 1 { } else { let b = [[1]]; }
`)
}

func TestFor(t *testing.T) {
	accepts(t, `
for i = 0 to 3 { }
for i = 3 to 0 { let a = i; }
let a = 1; for i = a to a + len([a]) { let b = [1, 2][i]; for j = i to i + i { let c = i == j; } }
in c: bit from 1; if c { for i = 0 to 1 { let a = [1, 2][i]; for j = 0 to i { } } }
def f(a: num) { for i = 0 to a { } return a; } for i = f(1) to f(2) { let a = f(i); }
`)
	gives(t, api.ErrType, `
for i = 1 == 1 to 2 { }
for i = 1 to word(2, 1) { }
for i = [1] to 2 { }
for i = 1 to [2] { }
for i = secret(1) to 2 { }
for i = 1 to secret(2) { }
in x: num from 1; for i = 0 to x { }
in x: num from 1; for i = x to 0 { }
let i = 1; for i = 1 == 1 to 2 { let a = b; }
let i = 1; for i = 1 to 2 == 2 { }
for i = 1 to [2] { let a = b; }
def f(a: num) { for i = 0 to a { } return a; } let x = f(secret(1));
`)
	gives(t, api.ErrName, `
for i = a to [1] { }
for i = [1] to a { }
let i = 1; for i = 1 to a { }
for i = 1 to 2 { let a = b; }
`)
	gives(t, api.ErrTwice, `
let i = 1; for i = 1 to 2 { let a = b; }
let i = 1; for i = i to i { }
`)
}

func TestOut(t *testing.T) {
	accepts(t, `
out 1 to all;
out 1 to 1;
out [1] to 5;
out 1 to 1, 2, 3, 4, 5;
out 1 == 1 to 2, 5;
for i = 0 to 2 { out i to all; }
if 1 == 1 { out 1 to 1; } else { out [2] to 2; }
in c: bit from 1; out c to all; if c { } out c to 2;
in c: bit from 1; if 1 == 1 { if c { } out c to all; }
`)
	gives(t, api.ErrArg, `
out 1 to 0;
out 1 to 6;
out 1 to 4294967295;
out 1 to 1, 1;
out 1 to 2, 1;
out 1 to 1, 3, 2;
out 1 to 1, 2, 2;
out 1 to 0, 1;
out 1 to 5, 6;
out 1 to 1, 2, 3, 4, 5, 6;
out 1 to 1, 2, 3, 4, 5, 5;
if 1 == 1 { } else { out 1 to 6; }
for i = 0 to 0 { out i to 0; }
`)
	gives(t, api.ErrName, `
out a to 0;
out a to 2, 1;
`)
	gives(t, api.ErrType, "out 1 + [1] to 6;")
	gives(t, api.ErrState, `
in c: bit from 1; if c { out 1 to all; }
in c: bit from 1; if c { } else { out 1 to all; }
in c: bit from 1; if c { if 1 == 1 { out 1 to all; } }
in c: bit from 1; if 1 == 1 { if c { out 1 to all; } }
in c: bit from 1; if c { for i = 0 to 1 { out i to all; } }
in c: bit from 1; if c { out a to 9; }
in c: bit from 1; if secret(1 == 1) { out 1 to 9; }
def f() { out 1 to all; return 1; } let a = f();
def f() { if 1 == 1 { out b to 9; } return 1; } let a = f();
def f() { out 1 to all; return 1; } def g() { return f(); } for i = 0 to g() { }
in c: bit from 1; def f() { out 1 to all; return 1; } if c { let a = f(); }
in c: bit from 1; if c { if c { } out 1 to all; }
in c: bit from 1; if c { if 1 == 1 { } else { } out 1 to all; }
def f() { return 1; } def g() { let a = f(); out a to all; return 1; } let a = g();
`)
	accepts(t, `
def f() { return 1; } out f() to all; out f() to 1;
def f() { if secret(1 == 1) { } return 1; } let a = f(); out a to all;
in c: bit from 1; if c { } else { } out 1 to all; for i = 0 to 1 { if c { } out i to 1; }
`)
}

func TestDef(t *testing.T) {
	accepts(t, `
def f() { return 1; }
def f(a: num, b: bit, c: word 16[32], d: num[1], e: word 1) { return 1; }
let a = 1; def f(a: num) { return a; }
def f(g: num) { return g; } def g(h: num) { return h; }
`)
	accepts(t, "def f("+parameters(8)+") { return a0; } let x = f("+ones(8)+");", "let a0 = 1; def f("+parameters(8)+") { return a0; }")
	gives(t, api.ErrState, `
if 1 == 1 { def f() { return 1; } }
if 1 == 1 { } else { def f() { return 1; } }
for i = 0 to 1 { def i() { return 1; } }
def f() { def g() { return 1; } return 1; } let a = f();
def f() { def f(a: num, a: word 0) { return 1; } return 1; } let a = f();
`)
	gives(t, api.ErrState, "if 1 == 1 { def f("+parameters(9)+") { return 1; } }")
	gives(t, api.ErrTwice, `
let f = 1; def f(a: word 17) { return 1; }
`)
	gives(t, api.ErrTwice, "let f = 1; def f("+parameters(9)+") { return 1; }")
	gives(t, api.ErrLimit, "def f("+parameters(9)+") { return 1; }", "def f("+parameters(9)+", a0: num) { return 1; }", "def f("+parameters(8)+", f: word 17) { return 1; }", "def f("+parameters(30)+") { return 1; }")
	gives(t, api.ErrTwice, `
def f(a: num, a: num) { return 1; }
def f(a: num, b: bit, c: num, b: bit) { return 1; }
def f(f: num) { return 1; }
def f(a: num, f: num) { return 1; }
def g() { return 1; } def f(g: num) { return 1; }
def g() { return 1; } def f(a: num, g: num) { return 1; }
def f(a: num, mux: bit) { return 1; }
def f(a: word 17, a: num) { return 1; }
def f(a: num[33], f: num) { return 1; }
def f(len: word 0) { return 1; }
`)
	gives(t, api.ErrTwice, "def f("+parameters(7)+", a0: num) { return 1; }")
	gives(t, api.ErrArg, `
def f(a: word 0) { return 1; }
def f(a: word 17) { return 1; }
def f(a: num, b: num[33]) { return 1; }
def f(a: bit[4294967295], b: bit) { return 1; }
def f(a: word 4294967295, b: bit) { return b; } let x = f(1);
`)
	gives(t, api.ErrArg, "def f("+parameters(7)+", b: word 0[1]) { return 1; }")
}

func TestCalls(t *testing.T) {
	accepts(t, `
def f(a: num, b: bit) { return [a, num(b)]; } let x = f(1, 1 == 1)[0]; let y = f(secret(1), secret(1 == 1)); y = [x, 1];
def f(a: word 3[2]) { return sort(a); } let x = f([word(3, 1), word(3, 2)]); x = f(f(x));
def f(a: num) { return a; } let x = f(f(f(1))) + f(2); x = f(3);
`)
	gives(t, api.ErrType, `
def f() { return 1; } let x = f(1);
def f(a: num) { return 1; } let x = f();
def f(a: num) { return 1; } let x = f(1, 1);
def f(a: num) { return 1; } let x = f(1 == 1);
def f(a: num) { return 1; } let x = f([1]);
def f(a: num[2]) { return 1; } let x = f([1]);
def f(a: num[1]) { return 1; } let x = f(1);
def f(a: word 3) { return 1; } let x = f(word(4, 1));
def f(a: num, b: bit) { return 1; } let x = f(1, 1);
def f(a: num, b: bit) { return 1; } let x = f(1 == 1, 1 == 1);
def f(a: num) { return 1; } let x = f(1 + [1]);
def f(a: num) { return b; } let x = f([1]);
def f(a: num) { return b; } let x = f();
def f(a: word 2[2]) { return 1; } let x = f(word(2, 1));
def f() { return [[1]]; } let x = f();
def f(a: num) { let b = [[a]]; return c; } let x = f(1);
def f() { a = 1 == [1]; return 1; } let x = f();
def f(a: num, b: num) { return a == b; } let x = f(1, 2); let y = f(1, secret(2));
`)
	gives(t, api.ErrName, `
def f(a: num) { return 1; } let x = f([1], b);
def f(a: num) { return 1; } let x = f(b, [1]);
def f() { return 1; } let x = f(b);
def f(a: num) { return b; } let x = f(1);
def f(a: num) { b = 1; return [[1]]; } let x = f(1);
let x = g(1, b);
def f() { let c = b; return [[1]]; } let x = f();
`)
	gives(t, api.ErrType, `
let x = g([[1]], b);
let x = g([[1]]);
def f() { return 1; } let x = f() + f(1) + b;
`)
}

// A parameter is secret if the argument is, in each call anew.
func TestCallTypes(t *testing.T) {
	outputs(t, "def f(a: num, b: bit) { let c = mux(b, a, 2); return [c, 1]; } out f(1, 1 == 1) to all; out f(secret(1), 1 == 1) to all; out f(1, secret(1 == 1)) to all; out f(1, 2 == 1) to all;", "num[2]", "secret num[2]", "secret num[2]", "num[2]")
	outputs(t, "def f() { return word(3, 1); } def g(a: word 3) { return a + f(); } out g(f()) to all; out g(secret(f())) to all; out len(g(secret(f()))) to all;", "word 3", "secret word 3", "num")
	outputs(t, choose+"def f(a: num) { let b = a; return b; } let x = secret(1); out f(1) to all; if c { x = f(2); } out f(2) to all; if f(3) == 1 { out f(3) to all; }", "num", "num", "num")
	outputs(t, choose+"def f(a: num, c: bit) { let d = secret(a); if c { d = 1; } return d; } out f(1, c) to all; out f(1, 1 == 1) to all;", "secret num", "secret num")
}

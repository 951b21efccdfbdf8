package mean_test

import (
	"strconv"
	"strings"
	"testing"

	"junto/api"
)

// P11.3

func TestIn(t *testing.T) {
	tells(t, setup, "in a: num from 2; in b: bit from 1; in c: word 3 from 1; in d: num[2] from 2; in e: bit[2] from 3; in f: word 2[2] from 1; out f to all; out e to all; out d to all; out c to all; out b to all; out a to all;",
		[]uint64{200, 1, 0, 1, 1, 7, 8, 1, 0, 1, 0, 1, 1}, "1 0 1 1; 1 0; 7 8; 0 1 1; 1; 200")
	tells(t, setup, "in a: num from 1; let x = a + 1; out x to 2; in b: num from 1; x = x + b; out x to 3;", []uint64{4, 6}, "to 2: 5; to 3: 11")
	tells(t, setup, "in a: num[32] from 1; in b: num from 1; out a[0] to all; out a[31] to all; out b to all;", counted(33), "0; 31; 32")
}

func TestAssignments(t *testing.T) {
	tells(t, setup, "let a = 1; let b = a; a = 2; out [a, b] to all; b = a + b; out [a, b] to all; a = a * a; out a to all;", nil, "2 1; 2 3; 4")
	tells(t, setup, "let a = [1, 2, 3]; let b = a; a[1] = 9; out a to all; out b to all; b = a; b[0] = 8; b[2] = b[0] + a[0]; out a to all; out b to all;", nil, "1 9 3; 1 2 3; 1 9 3; 8 9 9")
	tells(t, setup, "in a: word 2[3] from 1; a[2] = a[0]; a[0] = a[1] + a[2]; out a to all;", []uint64{1, 0, 0, 1, 0, 0}, "1 1 0 1 1 0")
	tells(t, setup, "let a = secret(1); a = 2; out a to all; let b = [bit(1)]; b[0] = bit(0); out b to all; let i = 1; let l = [0, 0]; l[i] = i; l[i - 1] = l[i] + 4; out l to all;", nil, "2; 0; 5 1")
}

func TestAssignedIndices(t *testing.T) {
	gives(t, api.OK, "let a = [1, 2]; a[0] = 1; a[1] = 1; a[a[0]] = 0; a[257] = 3; a[a[0] - 2] = 0;")
	gives(t, api.ErrRange, "let a = [1, 2]; a[2] = 1;", "let a = [1, 2]; a[-1] = 1;", "let a = [1]; a[1] = 1;", "let a = [word(3, 1)]; a[1] = word(3, 1);", "let a = [secret(1), 2]; a[2] = 1;",
		"let a = [1]; a[a[1]] = 1;", "let a = [1]; a[0] = a[1];", "let a = [1]; a = [a[1]];", "let a = 1; let b = [1]; a = b[1];")
	// Both expressions are evaluated from the left to the right, before the element is replaced.
	gives(t, api.ErrLimit, spend(262130)+"let a = [1]; a[1] = 1 + 2 + 3 + 4 + 5 + 6 + 7;", spend(262130)+"let a = [1]; a[1 + 2 + 3 + 4 + 5 + 6] = a[1];")
	gives(t, api.ErrRange, spend(262130)+"let a = [1]; a[a[1]] = 1 + 2 + 3 + 4 + 5 + 6 + 7;")
}

// spend returns items that visit n nodes.
func spend(n int) string {
	text := ""
	for n >= 3+256*4 {
		k := min(256, (n-3)/256-4)
		text += "for i = 1 to 256 { for j = 1 to " + strconv.Itoa(k) + " { } }"
		n -= 3 + 256*(4+k)
	}
	for n >= 3 {
		k := min(256, n-3)
		text += "for i = 1 to " + strconv.Itoa(k) + " { }"
		n -= 3 + k
	}
	for i := range n {
		text += "def spend" + strconv.Itoa(i) + "() { return 0; }"
	}
	return text
}

func TestPublicIf(t *testing.T) {
	tells(t, setup, "let a = 1; if bit(1) { a = 2; } out a to all; if bit(0) { a = 3; } out a to all; if bit(0) { a = 4; } else { a = 5; } out a to all; if bit(1) { a = 6; } else { a = 7; } out a to all;", nil, "2; 2; 5; 6")
	tells(t, setup, "for i = 0 to 4 { if i == 2 { out 100 to all; } else { if i < 2 { out i to 1; } else { out i to 2; } } }", nil, "to 1: 0; to 1: 1; 100; to 2: 3; to 2: 4")
	// The other block is not executed.
	gives(t, api.OK, "let a = [1]; if bit(1) { } else { let b = a[1]; }", "let a = [1]; if bit(0) { let b = a[1]; }", "let a = [1]; let b = 0; if a[0] == 2 { b = a[1]; }")
	gives(t, api.ErrRange, "let a = [1]; if bit(0) { } else { let b = a[1]; }", "let a = [1]; if bit(1) { let b = a[1]; }", "let a = [1]; if a[1] == 0 { }")
}

// secretIf checks the outputs of a program with the secret bit c, for 0 and for 1.
func secretIf(t *testing.T, text, no, yes string) {
	t.Helper()
	for c, want := range []string{no, yes} {
		tells(t, setup, "in c: bit from 1; let a = secret(10); let b = secret(20); let l = secret([1, 2, 3]);"+text+"out [a, b] to all; out l to all;", []uint64{uint64(c)}, want)
	}
}

func TestSecretIf(t *testing.T) {
	secretIf(t, "if c { }", "10 20; 1 2 3", "10 20; 1 2 3")
	secretIf(t, "if c { a = 11; }", "10 20; 1 2 3", "11 20; 1 2 3")
	secretIf(t, "if c { } else { a = 11; }", "11 20; 1 2 3", "10 20; 1 2 3")
	secretIf(t, "if c { a = 11; } else { a = 12; }", "12 20; 1 2 3", "11 20; 1 2 3")
	secretIf(t, "if !c { a = 11; } else { b = 22; }", "11 20; 1 2 3", "10 22; 1 2 3")
	secretIf(t, "if c { a = a + 1; a = a * 2; b = a; } else { b = a + b; }", "10 30; 1 2 3", "22 22; 1 2 3")
	secretIf(t, "if c { l[0] = a; l[2] = 9; } else { l[1] = l[0] + l[2]; }", "10 20; 1 4 3", "10 20; 10 2 9")
	secretIf(t, "if c { l = [7, 8, 9]; a = l[1]; }", "10 20; 1 2 3", "8 20; 7 8 9")
	// Each block starts with the variables as they were.
	secretIf(t, "if c { a = 0; b = 0; l[0] = 0; } else { a = a + b; b = a; l[0] = l[0] + 5; }", "30 30; 6 2 3", "0 0; 0 2 3")
	// The condition is evaluated once.
	secretIf(t, "let d = c; if d { d = !d; a = 1; } else { d = !d; a = 2; } if d { b = 1; } else { b = 2; }", "2 1; 1 2 3", "1 2; 1 2 3")
}

func TestNestedSecretIf(t *testing.T) {
	text := "in c: bit from 1; in d: bit from 1; let a = secret(0); let b = secret(0);" +
		"if c { a = 1; if d { a = a + 10; } else { b = a; } a = a + 100; } else { if d { b = 5; } b = b + 50; } out [a, b] to all;"
	for i, want := range []string{"0 50", "0 55", "101 1", "111 0"} {
		tells(t, setup, text, []uint64{uint64(i / 2), uint64(i % 2)}, want)
	}
	// A variable of a block, which an inner if changes, is forgotten at the end of the block.
	text = "in c: bit from 1; in d: bit from 1; let a = secret(0); if c { let x = 1; if d { x = 2; a = x; } else { x = 3; } a = a + x; x = 9; } else { let x = bit(0); if d { x = bit(1); } if x { a = 7; } } let x = 4; out [a, x] to all;"
	for i, want := range []string{"0 4", "7 4", "3 4", "4 4"} {
		tells(t, setup, text, []uint64{uint64(i / 2), uint64(i % 2)}, want)
	}
	// Three levels, in which only the innermost one assigns.
	text = "in c: bit[3] from 1; let a = secret(1); if c[0] { if c[1] { if c[2] { a = 2; } } else { if c[2] { } else { a = 3; } } } out a to all;"
	for i, want := range []string{"1", "1", "1", "1", "3", "1", "1", "2"} {
		tells(t, setup, text, []uint64{uint64(i / 4), uint64(i / 2 % 2), uint64(i % 2)}, want)
	}
}

func TestSecretIfWithLoops(t *testing.T) {
	secretIf(t, "if c { for i = 1 to 3 { a = a + i; l[i - 1] = i * i; } } else { for i = 0 to 1 { for j = 0 to i { b = b + 1; } } }", "10 23; 1 2 3", "16 20; 1 4 9")
	secretIf(t, "for i = 1 to 4 { if c { a = a + i; } else { b = b + a; } }", "10 60; 1 2 3", "20 20; 1 2 3")
	secretIf(t, "if c { for i = 1 to 2 { let x = i; x = x + 1; a = a + x; } let x = 5; b = x; }", "10 20; 1 2 3", "15 5; 1 2 3")
	secretIf(t, "if c { for i = 1 to 0 { a = 0; } if bit(0) { a = 1; } else { a = 2; } }", "10 20; 1 2 3", "2 20; 1 2 3")
}

func TestSecretIfInProcedures(t *testing.T) {
	secretIf(t, "def f(x: num, d: bit) { let y = x; if d { y = y + 1; x = 0; } return x * 100 + y; } if c { a = f(a, c); } else { a = f(2 + a, c); } b = f(secret(0), c);", "184 0; 1 2 3", "11 1; 1 2 3")
	secretIf(t, "def f(x: num) { x = x + 1; let a = 5; a = a + x; return a; } if c { b = f(a); }", "10 20; 1 2 3", "10 16; 1 2 3")
}

// What a block of an if with a secret condition declares is secret, also in a procedure that it calls.
func TestSecretLet(t *testing.T) {
	gives(t, api.ErrRange, "let l = [1]; if secret(bit(0)) { let b = bit(0); if b { let x = l[1]; } }", "let l = [1]; if secret(bit(0)) { } else { let b = bit(1); if b { } else { let x = l[1]; } }",
		"def f() { let l = [1]; let b = bit(0); if b { let x = l[1]; } return 0; } let y = secret(0); if secret(bit(0)) { y = f(); }")
	gives(t, api.OK, "let l = [1]; let b = bit(0); if secret(bit(0)) { if b { let x = l[1]; } }", "let l = [1]; if secret(bit(0)) { } let b = bit(0); if b { let x = l[1]; }",
		"def f() { let l = [1]; let b = bit(0); if b { let x = l[1]; } return 0; } let y = secret(0); if secret(bit(0)) { y = 1; } y = f();",
		"def f(b: bit) { let l = [1]; if b { let x = l[1]; } return 0; } let y = secret(0); if secret(bit(0)) { y = f(bit(0)); }")
}

// Both blocks are executed, also the one that does not count.
func TestBothBlocks(t *testing.T) {
	gives(t, api.ErrRange, "let l = [1]; if secret(bit(0)) { let x = l[1]; }", "let l = [1]; if secret(bit(1)) { } else { let x = l[1]; }", "let l = secret([1]); if secret(bit(1)) { } else { l[1] = 2; }")
	// The first block comes first.
	gives(t, api.ErrLimit, spend(262100)+"let l = [1]; if secret(bit(0)) { for i = 0 to 100 { } } else { let x = l[1]; }")
	gives(t, api.ErrRange, spend(262100)+"let l = [1]; if secret(bit(0)) { let x = l[1]; } else { for i = 0 to 100 { } }")
}

func TestFor(t *testing.T) {
	tells(t, setup, "for i = 3 to 5 { out i to all; } for i = 7 to 7 { out i to all; } for i = 5 to 4 { out 100 to all; } for i = 256 to 0 { out 101 to all; }", nil, "3; 4; 5; 7")
	tells(t, setup, "for i = 1 to 2 { for j = i to 2 { let x = 10 * i; x = x + j; out x to all; } }", nil, "11; 12; 22")
	// The bounds are evaluated once.
	tells(t, setup, "let n = 2; for i = n - 1 to n + 1 { n = n + i; out n to all; } out n to all;", nil, "3; 5; 8; 8")
	tells(t, setup, "let l = [1, 1, 1]; for i = 0 to len(l) - 1 { l[i] = i * i; } out l to all;", nil, "0 1 4")
	tells(t, setup, "let s = 0; for i = 255 to -1 { s = s + 1; } out s to all; for i = 257 to 259 { out i to all; }", nil, "2; 0; 1; 2")
	var all []string
	for i := range 3 {
		all = append(all, strconv.Itoa(i))
	}
	tells(t, modulo(3), "for i = 0 to -1 { out i to all; }", nil, strings.Join(all, "; "))
	tells(t, modulo(65537), "let s = 0; for i = 65500 to -1 { s = s + 1; } out s to all; for i = 0 to -1 { }", nil, "37")
	gives(t, api.ErrRange, "let a = [1]; for i = a[1] to 0 { }", "let a = [1]; for i = 1 to a[1] { }", "let a = [1]; for i = 0 to 1 { let x = a[i]; }")
	gives(t, api.OK, "let a = [1]; for i = 0 to 0 { let x = a[i]; } for i = 2 to 1 { let x = a[i]; }")
	gives(t, api.ErrLimit, spend(262130)+"let a = [1]; for i = 1 + 2 + 3 + 4 + 5 + 6 + 7 to a[1] { }")
}

func TestOut(t *testing.T) {
	tells(t, setup, "out 3 to all; out 4 to 1; out 5 to 1, 2, 3, 4, 5; out [6, 7] to 2, 5; out word(3, 3) to all; out [word(2, 1), word(2, 2)] to 4; out bit(1) to all;", nil,
		"3; to 1: 4; to 1 2 3 4 5: 5; to 2 5: 6 7; 1 1 0; to 4: 1 0 0 1; 1")
	tells(t, setup, "", nil, "")
	tells(t, setup, "in a: num from 1;", []uint64{3}, "")
}

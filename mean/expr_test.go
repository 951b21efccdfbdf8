package mean_test

import (
	"math/big"
	"slices"
	"strconv"
	"strings"
	"testing"

	"junto/api"
	"junto/mean"
)

// P11.2

func TestNumber(t *testing.T) {
	tells(t, modulo(3), "out 0 to all; out 2 to all; out 3 to all; out 4294967295 to all;", nil, "0; 2; 0; 0")
	tells(t, modulo(65537), "out 65536 to all; out 65537 to all; out 65538 to all; out 4294967295 to all;", nil, "65536; 0; 1; 0")
	tells(t, modulo(11), "out [10, 11, 12, 007] to all;", nil, "10 0 1 7")
}

// remainder returns x modulo p, where x may be negative.
func remainder(x *big.Int, p uint64) uint64 {
	return new(big.Int).Mod(x, new(big.Int).SetUint64(p)).Uint64()
}

// nums returns the values of `-x`, `x + y`, `x - y`, `x * y` and `num(x)`.
func nums(p, x, y uint64) []uint64 {
	a, b := new(big.Int).SetUint64(x), new(big.Int).SetUint64(y)
	z := new(big.Int)
	return []uint64{remainder(z.Neg(a), p), remainder(z.Add(a, b), p), remainder(z.Sub(a, b), p), remainder(z.Mul(a, b), p), x}
}

func TestNums(t *testing.T) {
	for _, p := range []uint64{3, 5, 7, 11} {
		for x := range p {
			for y := range p {
				tells(t, modulo(p), "in x: num from 1; in y: num from 2; out [-x, x + y, x - y, x * y, num(x)] to all;", []uint64{x, y}, joined(nums(p, x, y)))
			}
		}
	}
	m := newMaker(2, 1)
	for range 300 {
		p := pick(m, uint64(257), 65521, 65537)
		x := pick(m, 0, 1, p-1, uint64(m.Intn(int(p))))
		y := pick(m, 0, 1, p-1, uint64(m.Intn(int(p))))
		tells(t, modulo(p), "in x: num from 1; in y: num from 2; out [-x, x + y, x - y, x * y, num(x)] to all;", []uint64{x, y}, joined(nums(p, x, y)))
		text := "let x = " + strconv.Itoa(int(x)) + "; let y = " + strconv.Itoa(int(y)) + "; out [-x, x + y, x - y, x * y, num(x)] to all;"
		tells(t, modulo(p), text, nil, joined(nums(p, x, y)))
	}
}

func one(holds bool) uint64 {
	if holds {
		return 1
	}
	return 0
}

func TestPublicNums(t *testing.T) {
	for _, p := range []uint64{3, 5, 7} {
		var want []string
		for x := range p {
			for y := range p {
				want = append(want, joined([]uint64{one(x == y), one(x < y), one(x != 0)}))
			}
		}
		for _, from := range []string{"0", strconv.Itoa(int(p))} {
			text := "for x = " + from + " to -1 { for y = " + from + " to -1 { out [x == y, x < y, bit(x)] to all; } }"
			tells(t, modulo(p), text, nil, strings.Join(want, "; "))
		}
	}
	tells(t, modulo(65537), "out [65536 < 0, 0 < 65536, 65537 < 1, 65535 < 65536, -1 == 65536, bit(65536), bit(65537), bit(2)] to all;", nil, "0 1 1 1 1 1 0 1")
}

func TestBits(t *testing.T) {
	for x := range uint64(2) {
		for y := range uint64(2) {
			text := "in x: bit from 1; in y: bit from 2; out [!x, x & y, x | y, x ^ y, x == y, bit(x)] to all; out [num(x), 5] to 1; out word(1, x) to 2; out word(3, x) to 2;"
			want := joined([]uint64{1 - x, x * y, max(x, y), one(x != y), one(x == y), x}) + "; to 1: " + joined([]uint64{x, 5}) + "; to 2: " + joined([]uint64{x}) + "; to 2: " + joined([]uint64{x, 0, 0})
			tells(t, setup, text, []uint64{x, y}, want)
			text = strings.ReplaceAll(text, "in x: bit from 1; in y: bit from 2;", "let x = bit("+strconv.Itoa(int(x)*7)+"); let y = bit("+strconv.Itoa(int(y))+");")
			tells(t, setup, text, nil, want)
		}
	}
}

// wordsText outputs the results of all operations on the words x and y of k bits.
func wordsText(k int) string {
	text := "let w = [!x, x + y, x - y, x * y, x & y, x | y, x ^ y]; out w to all; out [x == y, x < y] to all; out num(x) to all;"
	for i := range k {
		text += "out x[" + strconv.Itoa(i) + "] to all;"
	}
	for j := range 16 {
		text += "out word(" + strconv.Itoa(j+1) + ", x) to all;"
	}
	return text
}

// wordsTold returns the outputs of wordsText.
func wordsTold(p uint64, k int, x, y uint64) string {
	size := uint64(1) << k
	// For bitwise operations there is a formula for each bit.
	var not, and, or, xor []uint64
	for i, a := range bits(x, k) {
		b := bits(y, k)[i]
		not = append(not, 1-a)
		and = append(and, a*b)
		or = append(or, a+b-a*b)
		xor = append(xor, a+b-2*a*b)
	}
	l := []string{
		joined(not, bits((x+y)%size, k), bits((x+size-y)%size, k), bits(x*y%size, k), and, or, xor),
		joined([]uint64{one(x == y), one(x < y)}),
		joined([]uint64{x % p}),
	}
	// An index is a num, too, so that it is reduced modulo p.
	for i := range uint64(k) {
		l = append(l, joined(bits(x, k)[i%p:i%p+1]))
	}
	for j := range 16 {
		l = append(l, joined(bits(x, j+1)))
	}
	return strings.Join(l, "; ")
}

// word returns an expression for a public word of k bits.
func word(k int, x uint64) string {
	return "word(" + strconv.Itoa(k) + ", " + strconv.Itoa(int(x)) + ")"
}

func testWords(t *testing.T, p uint64, k int, x, y uint64) {
	t.Helper()
	kind := "word " + strconv.Itoa(k)
	tells(t, modulo(p), "in x: "+kind+" from 1; in y: "+kind+" from 2;"+wordsText(k), slices.Concat(bits(x, k), bits(y, k)), wordsTold(p, k, x, y))
	if x < p && y < p {
		tells(t, modulo(p), "let x = "+word(k, x)+"; let y = "+word(k, y)+";"+wordsText(k), nil, wordsTold(p, k, x, y))
	}
}

func TestShortWords(t *testing.T) {
	for k := 1; k <= 3; k++ {
		for x := range uint64(1) << k {
			for y := range uint64(1) << k {
				testWords(t, 7, k, x, y)
			}
		}
	}
}

func TestWords(t *testing.T) {
	m := newMaker(3, 1)
	for k := 1; k <= 16; k++ {
		size := 1 << k
		for range 12 {
			x := pick(m, 0, 1, uint64(size-1), uint64(m.Intn(size)), uint64(m.Intn(size)))
			y := pick(m, 0, x, uint64(size-1), uint64(m.Intn(size)), uint64(m.Intn(size)))
			testWords(t, pick(m, uint64(3), 11, 257, 65537), k, x, y)
		}
	}
}

// A word of a public num has the lowest bits of the field element.
func TestWordOfNum(t *testing.T) {
	tells(t, modulo(11), "out word(3, 10) to all; out word(3, 11) to all; out word(4, -1) to all; out word(1, 13) to all; out word(16, 10) to all;", nil, "0 1 0; 0 0 0; 0 1 0 1; 0; 0 1 0 1 0 0 0 0 0 0 0 0 0 0 0 0")
	tells(t, modulo(65537), "out word(16, 65536) to all; out word(16, 65535) to all;", nil, joined(bits(0, 16))+"; "+joined(bits(65535, 16)))
}

func TestArrays(t *testing.T) {
	tells(t, setup, "let a = [7, 8, 9]; out a[0] to all; out a[2] to all; out a[len(a) - 2] to all; out a to all; out [5] to all; out [5][0] to all;", nil, "7; 9; 8; 7 8 9; 5; 5")
	tells(t, setup, "in a: bit[3] from 1; out [a[2], a[1], !a[0]] to all;", []uint64{1, 0, 1}, "1 0 0")
	tells(t, setup, "in a: word 2[3] from 1; out a[1] to all; out a[2][0] to all; out a[2][1] to all; out [a[2], a[0]] to 3;", []uint64{0, 0, 1, 0, 0, 1}, "1 0; 0; 1; to 3: 0 1 0 0")
	tells(t, setup, "in a: num[32] from 1; out a[31] to all; out secret(a)[30] to all;", counted(32), "31; 30")
	// A list with a secret element has the values of all elements.
	tells(t, setup, "in a: num from 1; let l = [4, a, 6]; out l to all; out l[0] + l[1] to all;", []uint64{3}, "4 3 6; 7")
}

// counted returns the numbers from 0 to n - 1.
func counted(n int) []uint64 {
	l := make([]uint64, n)
	for i := range l {
		l[i] = uint64(i)
	}
	return l
}

func TestIndices(t *testing.T) {
	gives(t, api.OK, "let a = [1, 2, 3]; let b = [a[0], a[1], a[2], a[257], a[-255]];", "let w = word(5, 9); let b = [w[0], w[4]];", "let a = [1]; let b = a[0];")
	gives(t, api.ErrRange,
		"let a = [1, 2, 3]; let b = a[3];", "let a = [1, 2, 3]; let b = a[-1];", "let a = [1, 2, 3]; let b = a[256];", "let a = [1]; let b = a[1];",
		"let w = word(5, 9); let b = w[5];", "let w = word(5, 9); let b = w[-1];", "let w = word(1, 1); let b = w[1];", "let a = [word(5, 9)]; let b = a[0][5];",
		"let a = [word(5, 9), word(5, 9)]; let b = a[2];", "let a = [word(5, 9), word(5, 9)]; let b = a[4];", "let w = secret(word(16, 0)); let b = w[16];",
	)
}

func TestMux(t *testing.T) {
	for c := range uint64(2) {
		for _, x := range []struct {
			text   string
			inputs []uint64
			want   []string // with 0 and with 1
		}{
			{"in c: bit from 1; out mux(c, 3, 4) to all;", nil, []string{"4", "3"}},
			{"in c: bit from 1; in a: num from 1; out mux(c, a, 4) to all; out mux(c, 5, a) to all;", []uint64{256}, []string{"4; 256", "256; 5"}},
			{"in c: bit from 1; in a: bit from 2; out mux(c, a, !a) to all;", []uint64{0}, []string{"1", "0"}},
			{"in c: bit from 1; in a: word 3[2] from 2; out mux(c, a, [a[1], !a[0]]) to all;", []uint64{1, 0, 0, 0, 1, 1}, []string{"0 1 1 0 1 1", "1 0 0 0 1 1"}},
			{"in c: bit from 1; out mux(c, [1, 2, 3], [4, 5, 6]) to all;", nil, []string{"4 5 6", "1 2 3"}},
		} {
			tells(t, setup, x.text, append([]uint64{c}, x.inputs...), x.want[c])
		}
		public := strconv.Itoa(int(c))
		tells(t, setup, "out mux(bit("+public+"), [1, 2], [3, 4]) to all;", nil, []string{"3 4", "1 2"}[c])
		// With a public condition the result is public, too.
		tells(t, setup, "let a = [5, 6]; out a[mux(bit("+public+"), 1, 0)] to all;", nil, []string{"5", "6"}[c])
	}
}

func TestSort(t *testing.T) {
	m := newMaker(4, 1)
	for _, items := range []int{1, 2, 3, 7, 15, 16} {
		for k := 1; k <= 16; k += 3 {
			var numbers, flat, want []uint64
			for range items {
				x := uint64(m.Intn(1 << k))
				numbers = append(numbers, x)
				flat = append(flat, bits(x, k)...)
			}
			slices.Sort(numbers)
			for _, x := range numbers {
				want = append(want, bits(x, k)...)
			}
			kind := "word " + strconv.Itoa(k) + "[" + strconv.Itoa(items) + "]"
			tells(t, setup, "in a: "+kind+" from 1; let b = sort(a); out b to all; out a to all;", flat, joined(want)+"; "+joined(flat))
		}
	}
	tells(t, setup, "let a = [word(3, 5), word(3, 0), word(3, 7), word(3, 5)]; out sort(a) to all; out a to all;", nil, "0 0 0 1 0 1 1 0 1 1 1 1; 1 0 1 0 0 0 1 1 1 1 0 1")
}

func TestLen(t *testing.T) {
	tells(t, setup, "in a: num[5] from 1; in w: word 7 from 1; in v: word 7[3] from 1; in b: bit[1] from 1; out [len(a), len(w), len(v), len(v[0]), len(b)] to all;", make([]uint64, 5+7+21+1), "5 7 3 7 1")
	// The length is a public num, which is less than the prime.
	tells(t, modulo(3), "in w: word 16 from 1; in v: word 2[5] from 1; out [len(w), len(v), len([1, 2, 3])] to all; let l = len(w) == 1; if l { out 2 to all; }", make([]uint64, 26), "1 2 0; 2")
}

func TestSecret(t *testing.T) {
	tells(t, setup, "out secret(5) to all; out secret(bit(1)) to all; out secret(word(3, 6)) to all; out secret([1, 2]) to all; out secret(secret(3)) to all;", nil, "5; 1; 0 1 1; 1 2; 3")
}

func TestCalls(t *testing.T) {
	tells(t, setup, "def f() { return 7; } out f() + f() to all;", nil, "14")
	tells(t, setup, "def f(x: num, y: num) { return x - y; } let y = 1; out f(9, 4) to all; out f(y, f(3, y)) to all;", nil, "5; 256")
	// Parameters are variables of the call: the caller's variables are unchanged.
	tells(t, setup, "def f(x: num, l: num[2]) { x = x + 1; l[0] = x; return l; } let x = 5; let l = [1, 2]; out f(x, l) to all; out x to all; out l to all; out f(6, l) to all;", nil, "6 2; 5; 1 2; 7 2")
	tells(t, setup, "def f(x: num) { let y = x * x; for i = 1 to 3 { y = y + i; } return y; } def g(x: num) { let y = f(x); return f(y) + x; } out g(2) to all;", nil, "108")
	tells(t, setup, "in b: bit from 1; def f(c: bit, x: num) { if c { x = 0; } else { let y = 3; x = x + y; } return x; } out f(b, secret(4)) to all; out f(!b, secret(4)) to all;", []uint64{1}, "0; 7")
	tells(t, setup, "in w: word 3 from 1; def f(x: word 3) { return x[1]; } out f(w) to all; out f(!w) to all;", []uint64{0, 1, 0}, "1; 0")
	// A procedure's local variable may have the name of a variable or of a later procedure.
	tells(t, setup, "let a = 3; def f() { let a = 4; let g = 5; return a + g; } def g() { return f() + 1; } out g() + a to all;", nil, "13")
	// With a secret argument a parameter is secret, and public in another call.
	tells(t, setup, "in s: bit from 1; def f(c: bit) { let x = secret(1); if c { x = 2; } return x; } out f(s) to all; out f(bit(1)) to all; out f(bit(0)) to all;", []uint64{1}, "2; 2; 1")
}

// All parts are evaluated, also those that do not matter for the result.
func TestAllParts(t *testing.T) {
	gives(t, api.ErrRange,
		"let a = [1]; let b = mux(bit(1), 1, a[1]);", "let a = [1]; let b = mux(bit(0), a[1], 1);", "let a = [bit(1)]; let b = bit(0) & a[1];", "let a = [bit(1)]; let b = bit(1) | a[1];",
		"let a = [1]; let b = 0 * a[1];", "let a = [1]; let b = len([a[1]]);", "let a = [1]; def f(x: num) { return 1; } let b = f(a[1]);", "let a = [1]; def f() { let b = [1]; return b[1]; } let b = 0 * f();",
		"let a = [1]; let b = -a[1];", "let a = [1]; let b = [1, a[1]];", "let a = [1]; let b = a[a[1]];", "let a = [1]; let b = [a[1]][0];", "let a = [1]; let b = word(3, a[1]);", "let a = [1]; let b = secret(a[1]);",
	)
}

// Whether the error comes first that is met first shows that parts are evaluated from the left to the right.
func TestOrderOfParts(t *testing.T) {
	spend := "def f() { for i = 0 to 256 { for j = 0 to 256 { let x = i; let y = j; } } return 1; } let a = [1];"
	for _, x := range []struct {
		text  string
		first api.Errno
	}{
		{"L + R", api.ErrLimit}, {"R + L", api.ErrRange}, {"L == R", api.ErrLimit}, {"R < L", api.ErrRange}, {"[1, L, R]", api.ErrLimit}, {"[R, L]", api.ErrRange},
		{"mux(bit(1), L, R)", api.ErrLimit}, {"mux(bit(R), 1, L)", api.ErrRange}, {"a[L + R]", api.ErrLimit}, {"[L][R]", api.ErrLimit}, {"[R][L]", api.ErrRange}, {"a[1 + 0 * L]", api.ErrLimit},
	} {
		gives(t, x.first, spend+"let b = "+strings.NewReplacer("L", "f()", "R", "a[1]").Replace(x.text)+";")
	}
	gives(t, api.ErrLimit, spend+"def g(x: num, y: num) { return x; } let b = g(f(), a[1]);")
	gives(t, api.ErrRange, spend+"def g(x: num, y: num) { return x; } let b = g(a[1], f());")
}

// The first example of the chapter.
func TestExample(t *testing.T) {
	text := "in x: word 4 from 1; in y: word 4 from 2; out x + y to all; out num(x) * num(y) to 1;"
	l, e := mean.Run(modulo(11), parsed(t, text), []uint64{1, 0, 0, 1, 0, 0, 1, 1})
	if want := []api.Told{{Values: []uint64{1, 0, 1, 0}}, {To: []int{1}, Values: []uint64{9}}}; e != api.OK || !same(l, want) {
		t.Error(l, e)
	}
}

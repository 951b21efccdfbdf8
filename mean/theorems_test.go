package mean_test

import (
	"math/big"
	"slices"
	"strconv"
	"strings"
	"testing"

	"junto/api"
	"junto/check"
	"junto/mean"
)

// P11.5

// alike reports whether outputs have the same recipients and lengths.
func alike(l, m []api.Told) bool {
	return slices.EqualFunc(l, m, func(x, y api.Told) bool {
		return slices.Equal(x.To, y.To) && len(x.Values) == len(y.Values)
	})
}

func TestNoninterference(t *testing.T) {
	found := map[api.Errno]int{}
	for i := range 2000 {
		m := newMaker(int64(i), 1000000)
		m.Leaky = 4 + m.Intn(20)
		s := modulo(11)
		text := m.In() + m.In() + m.Program()
		n := parsed(t, text)
		slots, e := check.Slots(s, n)
		if e != api.OK {
			continue
		}
		_, want := mean.Work(s, n)
		found[want]++
		first, e := mean.Run(s, n, make([]uint64, len(slots)))
		if e != want {
			t.Errorf("Run(%q): error %d, but Work: %d", text, e, want)
		}
		for range 4 {
			inputs := m.inputs(s.P, slots)
			if l, e := mean.Run(s, n, inputs); e != want || !alike(l, first) {
				t.Errorf("Run(%q, %d) is %q with error %d, but %q with error %d with other inputs", text, inputs, spell(l), e, spell(first), want)
			}
		}
	}
	if found[api.OK] < 500 || found[api.ErrRange] < 40 {
		t.Error(found)
	}
}

// The number of visited nodes shows in whether another node can be visited.
func TestNodesForAllInputs(t *testing.T) {
	tried := 0
	for i := 0; tried < 5; i++ {
		m := newMaker(int64(i), 1000000)
		text := m.In() + m.Program()
		for range 3 {
			text += "if secret(bit(1)) { let w" + strconv.Itoa(m.Intn(100000)) + " = secret(1); } else { }"
		}
		n := parsed(t, text)
		slots, e := check.Slots(setup, n)
		w, failed := mean.Work(setup, n)
		if e != api.OK || failed != api.OK || w > 10000 {
			continue
		}
		tried++
		fits, tooMany := parsed(t, spend(api.MaxWork-w)+text), parsed(t, spend(api.MaxWork-w+1)+text)
		for range 4 {
			inputs := m.inputs(setup.P, slots)
			if _, e := mean.Run(setup, fits, inputs); e != api.OK {
				t.Error(text, inputs, e)
			}
			fails(t, setup, tooMany, inputs, api.ErrLimit)
		}
	}
}

// P11.6

func TestIfIsMux(t *testing.T) {
	start := "in c: bit from 1; in x: num from 1; in y: num from 2; in b: bit from 2; in v: word 3 from 1; in w: word 3 from 2; in l: word 3[2] from 3;"
	m := newMaker(5, 1)
	for _, values := range [][]string{
		{"x", "y", "a", "x + y", "x * a", "-y", "num(c)", "a + num(w)", "3", "mux(b, x, y)", "[x, y, a][1]"},
		{"b", "c", "!a", "a & b", "c ^ a", "v == w", "v < w", "bit(1)", "w[2]"},
		{"v", "w", "!v", "v + w", "v * w", "a - w", "a ^ v", "l[1]", "word(3, 5)", "word(3, c)", "sort([v, w, a])[1]"},
		{"l", "sort(l)", "[v, w]", "[a[1], a[0]]", "mux(c, l, a)", "[v, a[0] + w]"},
	} {
		for range 60 {
			first, e, f := pick(m, values...), pick(m, values...), pick(m, values...)
			first = strings.NewReplacer("a", "x").Replace(values[0])
			start := start + "let a = secret(" + first + ");"
			inputs := m.inputs(257, slots(t, start))
			end := "out a to all; out [x, y] to all;"
			want, failed := mean.Run(setup, parsed(t, start+"a = mux(c, "+e+", "+f+");"+end), inputs)
			if failed != api.OK {
				t.Error(e, f, failed)
			}
			tells(t, setup, start+"if c { a = "+e+"; } else { a = "+f+"; }"+end, inputs, spell(want))
			tells(t, setup, start+"if !c { a = "+f+"; } else { a = "+e+"; }"+end, inputs, spell(want))
			// One block may be left out.
			want, _ = mean.Run(setup, parsed(t, start+"a = mux(c, "+e+", a);"+end), inputs)
			tells(t, setup, start+"if c { a = "+e+"; }"+end, inputs, spell(want))
		}
	}
}

func slots(t *testing.T, text string) []api.Slot {
	t.Helper()
	l, e := check.Slots(setup, parsed(t, text))
	if e != api.OK {
		t.Fatal(text, e)
	}
	return l
}

// P11.7

func TestWordsAreIntegersModuloPowers(t *testing.T) {
	m := newMaker(6, 1)
	for k := 1; k <= 16; k++ {
		kind := "word " + strconv.Itoa(k)
		for range 20 {
			x, y := uint64(m.Intn(1<<k)), uint64(m.Intn(1<<k))
			a, b, size := new(big.Int).SetUint64(x), new(big.Int).SetUint64(y), uint64(1)<<k
			want := joined(bits(remainder(new(big.Int).Add(a, b), size), k), bits(remainder(new(big.Int).Mul(a, b), size), k), bits(remainder(new(big.Int).Sub(a, b), size), k))
			tells(t, modulo(pick(m, uint64(3), 257, 65537)), "in x: "+kind+" from 1; in y: "+kind+" from 2; out [x + y, x * y, x - y] to all;", slices.Concat(bits(x, k), bits(y, k)), want)
		}
	}
}

func TestWordsAreARing(t *testing.T) {
	laws := []string{
		"(x + y) + z == x + (y + z)", "x + y == y + x", "x + O == x", "x + (O - x) == O", "x - y == x + (O - y)", "(x - y) + y == x", "!x == O - x - I",
		"(x * y) * z == x * (y * z)", "x * y == y * x", "x * I == x", "x * O == O", "x * (y + z) == x * y + x * z",
		"!((x < y) & (y < x))", "(x == y) ^ (x < y) ^ (y < x)", "!((x < y) & (y < z)) | (x < z)", "(x & y) + (x | y) == x + y", "(x ^ y) + (x & y) == (x | y)",
	}
	m := newMaker(7, 1)
	for k := 1; k <= 16; k++ {
		text := "[" + strings.Join(laws, ", ") + "]"
		text = strings.NewReplacer("O", word(k, 0), "I", word(k, 1)).Replace(text)
		kind := "word " + strconv.Itoa(k)
		for range 10 {
			inputs := m.inputs(2, make([]api.Slot, 3*k))
			tells(t, setup, "in x: "+kind+" from 1; in y: "+kind+" from 2; in z: "+kind+" from 3; out "+text+" to all;", inputs, joined(slices.Repeat([]uint64{1}, len(laws))))
		}
	}
}

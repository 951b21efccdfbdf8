package check_test

import (
	"math"
	"slices"
	"strings"
	"testing"

	"junto/api"
	"junto/check"
)

// P10.1

func TestIsType(t *testing.T) {
	for _, x := range validTypes() {
		if !check.IsType(x) {
			t.Error(x)
		}
	}
	for _, x := range invalidTypes() {
		if check.IsType(x) || check.Size(x) != 0 {
			t.Error(x, check.Size(x))
		}
	}
}

func TestSize(t *testing.T) {
	for _, x := range plainTypes() {
		size := 1
		if x.Kind == api.TyWord {
			size = x.Bits
		}
		if n := check.Size(x); n != size {
			t.Error(x, n)
		}
		for items := 1; items <= 32; items++ {
			if n := check.Size(array(x, items)); n != size*items {
				t.Error(x, items, n)
			}
		}
	}
	for bits := 1; bits <= 16; bits++ {
		if n := check.Size(word(bits)); n != bits || !check.IsType(word(bits)) {
			t.Error(bits, n)
		}
	}
	if n := check.Size(array(word(16), 32)); n != 512 {
		t.Error(n)
	}
}

// P10.2

// signs are the operators and other strings.
var signs = strings.Fields("+ - * & | ^ == < ! > <= != = && || / % -- !! - a num ( [ ] , ;")

func TestUnary(t *testing.T) {
	expected := map[string][]api.Type{"-": both(num), "!": both(bit)}
	for _, bits := range widths {
		expected["!"] = append(expected["!"], both(word(bits))...)
	}
	for _, sign := range append(signs, "", " -", "\x00") {
		for _, x := range allTypes() {
			got, e := check.Unary(sign, x)
			typed(t, "Unary "+sign, got, e, x, slices.Contains(expected[sign], x))
		}
	}
}

// pairing is an operator and its operands.
type pairing struct {
	sign string
	a, b api.Type
}

// binaryTypes returns the result of each operator for operands that it has.
func binaryTypes() map[pairing]api.Type {
	expected := map[pairing]api.Type{}
	add := func(signs string, operand, result api.Type) {
		for _, sign := range strings.Fields(signs) {
			for _, a := range both(operand) {
				for _, b := range both(operand) {
					expected[pairing{sign, a, b}] = with(result, a, b)
				}
			}
		}
	}
	add("+ - *", num, num)
	add("& | ^", bit, bit)
	add("==", bit, bit)
	for _, bits := range widths {
		add("+ - * & | ^", word(bits), word(bits))
		add("== <", word(bits), bit)
	}
	expected[pairing{"==", num, num}] = bit
	expected[pairing{"<", num, num}] = bit
	return expected
}

func TestBinary(t *testing.T) {
	expected := binaryTypes()
	for _, sign := range append(signs, "", " +", "\x00") {
		for _, a := range allTypes() {
			for _, b := range allTypes() {
				got, e := check.Binary(sign, a, b)
				want, found := expected[pairing{sign, a, b}]
				typed(t, "Binary "+sign, got, e, want, found)
			}
		}
	}
}

func TestItem(t *testing.T) {
	for _, x := range plainTypes() {
		got, e := check.Item(x)
		typed(t, "Item of a plain type", got, e, with(bit, x), x.Kind == api.TyWord)
		for _, items := range lengths {
			got, e := check.Item(array(x, items))
			typed(t, "Item of an array", got, e, x, true)
		}
	}
	for _, x := range invalidTypes() {
		got, e := check.Item(x)
		typed(t, "Item of an invalid type", got, e, api.Type{}, false)
	}
}

func TestList(t *testing.T) {
	for _, x := range plainTypes() {
		for items := 1; items <= 34; items++ {
			l := slices.Repeat([]api.Type{x}, items)
			got, e := check.List(l)
			typed(t, "List", got, e, array(x, items), items <= 32)
			for i := range l {
				l[i].Secret = !x.Secret
				got, e := check.List(l)
				typed(t, "List with another flag", got, e, array(with(public(x), l...), items), items <= 32)
				l[i] = x
			}
		}
	}
	for _, l := range [][]api.Type{nil, {}, slices.Repeat([]api.Type{num}, 1<<16)} {
		got, e := check.List(l)
		typed(t, "List of too few or too many", got, e, api.Type{}, false)
	}
}

func TestListOfDifferentTypes(t *testing.T) {
	for _, x := range allTypes() {
		for _, y := range allTypes() {
			found := slices.Contains(plainTypes(), x) && public(x) == public(y)
			got, e := check.List([]api.Type{x, y})
			typed(t, "List of two", got, e, array(with(x, y), 2), found)
			got, e = check.List([]api.Type{x, x, y})
			typed(t, "List of three", got, e, array(with(x, y), 3), found)
		}
		got, e := check.List([]api.Type{x})
		typed(t, "List of one", got, e, array(x, 1), slices.Contains(plainTypes(), x))
	}
}

// P10.3

// calling is a call of a function that every program has.
type calling struct {
	name string
	bits int
	l    []api.Type
}

// callTypes returns calls and their types for all arguments that the functions have.
func callTypes() map[string]map[api.Type]api.Type {
	expected := map[string]map[api.Type]api.Type{"num": {}, "bit": {num: bit}, "sort": {}, "secret": {}, "len": {}}
	for _, x := range plainTypes() {
		expected["num"][x] = with(num, x)
	}
	for _, x := range both(bit) {
		expected["bit"][x] = x
	}
	for _, x := range arrayTypes() {
		expected["len"][x] = num
		if x.Kind == api.TyWord {
			expected["len"][array(x, 0)] = num
			expected["sort"][x] = x
		}
	}
	for _, x := range validTypes() {
		expected["secret"][x] = secret(x)
	}
	return expected
}

var amounts = []int{math.MinInt, -1, 0, 1, 2, 15, 16, 17, 1 << 32, math.MaxInt}

func TestCallWithOneArgument(t *testing.T) {
	for name, expected := range callTypes() {
		for _, x := range allTypes() {
			for _, bits := range amounts {
				got, e := check.Call(name, bits, []api.Type{x})
				want, found := expected[x]
				typed(t, name, got, e, want, found && bits == 0)
			}
			got, e := check.Call(name, 0, []api.Type{x, x})
			typed(t, name+" of two", got, e, api.Type{}, false)
		}
		got, e := check.Call(name, 0, nil)
		typed(t, name+" of nothing", got, e, api.Type{}, false)
	}
}

func TestCallWord(t *testing.T) {
	for _, x := range allTypes() {
		found := slices.Contains(plainTypes(), x) && x != secret(num)
		for _, bits := range append(amounts, 3, 4, 5, 6, 7, 8, 9, 10, 11, 12, 13, 14) {
			got, e := check.Call("word", bits, []api.Type{x})
			typed(t, "word", got, e, with(word(bits), x), found && 1 <= bits && bits <= 16)
		}
		got, e := check.Call("word", 4, []api.Type{num, x})
		typed(t, "word of two", got, e, api.Type{}, false)
	}
	got, e := check.Call("word", 4, nil)
	typed(t, "word of nothing", got, e, api.Type{}, false)
}

func TestCallMux(t *testing.T) {
	conditions := append(both(bit), num, secret(num), word(1), array(bit, 1), api.Type{}, api.Type{Kind: api.TyBit, Bits: 1})
	for _, c := range conditions {
		for _, a := range allTypes() {
			for _, b := range allTypes() {
				found := public(c) == bit && public(a) == public(b) && check.IsType(a)
				got, e := check.Call("mux", 0, []api.Type{c, a, b})
				typed(t, "mux", got, e, with(a, b, c), found)
			}
		}
	}
	for _, c := range allTypes() {
		got, e := check.Call("mux", 0, []api.Type{c, num, num})
		typed(t, "mux", got, e, with(num, c), public(c) == bit)
	}
	for _, x := range []calling{
		{"mux", 1, []api.Type{bit, num, num}}, {"mux", -1, []api.Type{bit, num, num}}, {"mux", 0, nil}, {"mux", 0, []api.Type{bit}},
		{"mux", 0, []api.Type{bit, bit}}, {"mux", 0, []api.Type{bit, bit, bit, bit}},
	} {
		got, e := check.Call(x.name, x.bits, x.l)
		typed(t, x.name, got, e, api.Type{}, false)
	}
}

// A name that no function has comes before all other errors.
func TestCallName(t *testing.T) {
	for _, name := range []string{"", "Num", "num ", "words", "bits", "sorts", "secrets", "length", "max", "let", "to", "all", "f", "-", "\xff"} {
		for _, bits := range []int{-1, 0, 1, 17} {
			for _, l := range [][]api.Type{nil, {num}, {bit}, {bit, bit, bit}, {word(17)}, {array(word(4), 4)}} {
				if x, e := check.Call(name, bits, l); (x != api.Type{}) || e != api.ErrName {
					t.Error(name, bits, l, x, e)
				}
			}
		}
	}
}

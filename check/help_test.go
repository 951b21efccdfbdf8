package check_test

import (
	"math"
	"math/rand"
	"slices"
	"strings"
	"testing"

	"junto/api"
	"junto/check"
	"junto/parse"
	"junto/sample"
)

var setup = api.Setup{P: 257, N: 5, T: 1}

// parsed returns the tree of a text that can be parsed.
func parsed(t *testing.T, text string) api.Node {
	t.Helper()
	n, at, e := parse.Parse(text)
	if e != api.OK {
		t.Fatalf("Parse(%q): error %d at %d", text, e, at)
	}
	return n
}

// judges checks the error of a program, which is the same for all three functions.
func judges(t *testing.T, s api.Setup, n api.Node, what string, want api.Errno) {
	t.Helper()
	if e := check.Check(s, n); e != want {
		t.Errorf("Check of %s: error %d, not %d", what, e, want)
	}
	slots, e := check.Slots(s, n)
	if e != want || e != api.OK && slots != nil {
		t.Errorf("Slots of %s: %v with error %d, not %d", what, slots, e, want)
	}
	outs, e := check.Outs(s, n)
	if e != want || e != api.OK && outs != nil {
		t.Errorf("Outs of %s: %v with error %d, not %d", what, outs, e, want)
	}
}

// gives checks the error of each text. Every line is a text of its own.
func gives(t *testing.T, want api.Errno, texts ...string) {
	t.Helper()
	for text := range strings.Lines(strings.TrimSpace(strings.Join(texts, "\n"))) {
		judges(t, setup, parsed(t, text), text, want)
	}
}

// accepts checks that no text has an error.
func accepts(t *testing.T, texts ...string) {
	t.Helper()
	gives(t, api.OK, texts...)
}

// outputs checks the types of the outputs of a text, which are spelled as in the language with an optional "secret".
func outputs(t *testing.T, text string, want ...string) {
	t.Helper()
	l, e := check.Outs(setup, parsed(t, text))
	var spelled []string
	for _, x := range l {
		spelled = append(spelled, spell(x))
	}
	if e != api.OK || !slices.Equal(spelled, want) {
		t.Errorf("Outs(%q) is %q with error %d, not %q", text, spelled, e, want)
	}
}

// spell returns a valid type as it is written in the language.
func spell(t api.Type) string {
	s := []string{"num", "bit", "word " + decimal(t.Bits)}[t.Kind-api.TyNum]
	if t.Items > 0 {
		s += "[" + decimal(t.Items) + "]"
	}
	if t.Secret {
		s = "secret " + s
	}
	return s
}

func decimal(n int) string {
	text := string(rune('0' + n%10))
	if n < 10 {
		return text
	}
	return decimal(n/10) + text
}

func public(t api.Type) api.Type {
	t.Secret = false
	return t
}

func secret(t api.Type) api.Type {
	t.Secret = true
	return t
}

// with returns a type that is secret if one of the others is.
func with(t api.Type, others ...api.Type) api.Type {
	t.Secret = t.Secret || slices.ContainsFunc(others, func(x api.Type) bool { return x.Secret })
	return t
}

// array returns an array of a plain type.
func array(t api.Type, items int) api.Type {
	t.Items = items
	return t
}

var (
	num = api.Type{Kind: api.TyNum}
	bit = api.Type{Kind: api.TyBit}
)

func word(bits int) api.Type {
	return api.Type{Kind: api.TyWord, Bits: bits}
}

// both returns the types, each both public and secret.
func both(l ...api.Type) []api.Type {
	var all []api.Type
	for _, t := range l {
		all = append(all, public(t), secret(t))
	}
	return all
}

// widths are some numbers of bits, and lengths some numbers of items of an array.
var (
	widths  = []int{1, 2, 15, 16}
	lengths = []int{1, 2, 31, 32}
)

// plainTypes returns types that are no arrays, both public and secret.
func plainTypes() []api.Type {
	l := []api.Type{num, bit}
	for _, bits := range widths {
		l = append(l, word(bits))
	}
	return both(l...)
}

// arrayTypes returns arrays, both public and secret.
func arrayTypes() []api.Type {
	var l []api.Type
	for _, t := range plainTypes() {
		for _, items := range lengths {
			l = append(l, array(t, items))
		}
	}
	return l
}

// validTypes returns types of all forms.
func validTypes() []api.Type {
	return append(plainTypes(), arrayTypes()...)
}

// invalidTypes returns types each of which is wrong in one respect or in several.
func invalidTypes() []api.Type {
	l := []api.Type{{}, {Items: 1}, {Bits: 1}, {Kind: -1}, {Kind: 4}, {Kind: 4, Bits: 1}, {Kind: math.MinInt}, {Kind: math.MaxInt, Bits: 3}, {Kind: 1<<32 + 1}}
	for _, bits := range []int{math.MinInt, -1, 1, 16, 17, 1 << 32, math.MaxInt} {
		l = append(l, api.Type{Kind: api.TyNum, Bits: bits}, api.Type{Kind: api.TyBit, Bits: bits})
	}
	for _, bits := range []int{math.MinInt, -16, -1, 0, 17, 1<<32 + 1, math.MaxInt} {
		l = append(l, word(bits), array(word(bits), 2))
	}
	for _, items := range []int{math.MinInt, -1, 33, 1 << 32, math.MaxInt} {
		l = append(l, array(num, items), array(bit, items), array(word(8), items))
	}
	return both(l...)
}

// allTypes returns valid and invalid types.
func allTypes() []api.Type {
	return append(validTypes(), invalidTypes()...)
}

// typed checks the type that a function returns, or ErrType if there should be none.
func typed(t *testing.T, what string, got api.Type, e api.Errno, want api.Type, found bool) {
	t.Helper()
	switch {
	case found && (got != want || e != api.OK):
		t.Errorf("%s is %v with error %d, not %v", what, got, e, want)
	case !found && (got != api.Type{} || e != api.ErrType):
		t.Errorf("%s is %v with error %d, not ErrType", what, got, e)
	}
}

// repeated returns the texts of a function for 0 to n - 1, with a separator between them.
func repeated(n int, separator string, text func(i int) string) string {
	var l []string
	for i := range n {
		l = append(l, text(i))
	}
	return strings.Join(l, separator)
}

// maker makes random programs and other choices.
type maker struct {
	*rand.Rand
	*sample.Maker
}

func newMaker(seed int64, careless int) *maker {
	r := rand.New(rand.NewSource(seed))
	return &maker{r, sample.New(r.Intn, careless)}
}

func pick[T any](m *maker, l ...T) T {
	return l[m.Intn(len(l))]
}

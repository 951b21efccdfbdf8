package mean_test

import (
	"fmt"
	"math/rand"
	"slices"
	"strings"
	"testing"

	"junto/api"
	"junto/mean"
	"junto/parse"
	"junto/sample"
)

// modulo returns a setup with a prime.
func modulo(p uint64) api.Setup {
	return api.Setup{P: p, N: min(5, int(p)-1), T: min(1, int(p)/6)}
}

// setup is what tests use that need no other prime.
var setup = modulo(257)

// parsed returns the tree of a text that can be parsed.
func parsed(t *testing.T, text string) api.Node {
	t.Helper()
	n, at, e := parse.Parse(text)
	if e != api.OK {
		t.Fatalf("Parse(%q): error %d at %d", text, e, at)
	}
	return n
}

// spell returns outputs as a string, one after the other: the recipients if there are any, and the values.
func spell(l []api.Told) string {
	var parts []string
	for _, x := range l {
		part := strings.Trim(fmt.Sprint(x.Values), "[]")
		if len(x.To) > 0 {
			part = "to " + strings.Trim(fmt.Sprint(x.To), "[]") + ": " + part
		}
		parts = append(parts, part)
	}
	return strings.Join(parts, "; ")
}

// tells checks the outputs of a program, as spell returns them.
func tells(t *testing.T, s api.Setup, text string, inputs []uint64, want string) {
	t.Helper()
	l, e := mean.Run(s, parsed(t, text), inputs)
	if got := spell(l); e != api.OK || got != want {
		t.Errorf("Run(%q, %d) is %q with error %d, not %q", text, inputs, got, e, want)
	}
	if _, e := mean.Work(s, parsed(t, text)); e != api.OK {
		t.Errorf("Work(%q): error %d", text, e)
	}
}

// gives checks the error of each text, which has no inputs. Every line is a text of its own.
func gives(t *testing.T, want api.Errno, texts ...string) {
	t.Helper()
	for text := range strings.Lines(strings.TrimSpace(strings.Join(texts, "\n"))) {
		n := parsed(t, text)
		l, e := mean.Run(setup, n, nil)
		if e != want || e != api.OK && l != nil {
			t.Errorf("Run(%q) is %q with error %d, not %d", text, spell(l), e, want)
		}
		if w, e := mean.Work(setup, n); e != want || e != api.OK && w != 0 {
			t.Errorf("Work(%q) is %d with error %d, not %d", text, w, e, want)
		}
	}
}

// visits checks how many nodes a program visits.
func visits(t *testing.T, text string, want int) {
	t.Helper()
	if w, e := mean.Work(setup, parsed(t, text)); e != api.OK || w != want {
		t.Errorf("Work(%q) is %d with error %d, not %d", text, w, e, want)
	}
}

// same reports whether outputs are equal.
func same(l, m []api.Told) bool {
	return slices.EqualFunc(l, m, func(x, y api.Told) bool {
		return slices.Equal(x.To, y.To) && slices.Equal(x.Values, y.Values)
	})
}

// bits returns the k lowest bits of a number.
func bits(x uint64, k int) []uint64 {
	l := make([]uint64, k)
	for i := range l {
		l[i] = x / (1 << i) % 2
	}
	return l
}

// joined returns lists one after the other, as spell returns an output.
func joined(l ...[]uint64) string {
	return strings.Trim(fmt.Sprint(slices.Concat(l...)), "[]")
}

// maker makes random programs and other choices.
type maker struct {
	*rand.Rand
	*sample.Maker
}

func newMaker(seed int64, careless int) *maker {
	r := rand.New(rand.NewSource(seed))
	return &maker{r, sample.New(r.Intn, careless)}
}

func pick[T any](m *maker, l ...T) T {
	return l[m.Intn(len(l))]
}

// inputs returns random inputs for slots, of which some that must be bits are none.
func (m *maker) inputs(p uint64, slots []api.Slot) []uint64 {
	l := make([]uint64, len(slots))
	for i, slot := range slots {
		l[i] = uint64(m.Intn(int(p)))
		if slot.Bit && m.Intn(8) > 0 {
			l[i] %= 2
		}
	}
	return l
}

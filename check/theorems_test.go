package check_test

import (
	"slices"
	"strings"
	"testing"

	"junto/api"
	"junto/check"
	"junto/sample"
)

// randomInputs returns values for slots.
func randomInputs(m *maker, slots []api.Slot) []uint64 {
	l := make([]uint64, len(slots))
	for i, slot := range slots {
		l[i] = uint64(m.Intn(257))
		if slot.Bit {
			l[i] %= 2
		}
	}
	return l
}

// isWrong reports whether the outputs have not the types, or the number, that Outs returns.
func isWrong(note string) bool {
	return strings.HasPrefix(note, "out") && strings.HasSuffix(note, "false")
}

// P10.6

func TestNoninterference(t *testing.T) {
	accepted, branches := 0, 0
	for i := 0; accepted < 1200; i++ {
		m := newMaker(int64(i), 1000000)
		m.Leaky = 4 + m.Intn(20)
		text := m.In() + m.In() + m.Program()
		n := parsed(t, text)
		slots, e := check.Slots(setup, n)
		if e != api.OK {
			continue
		}
		accepted++
		first := ran(setup, &n, randomInputs(m, slots))
		for range 3 {
			inputs := randomInputs(m, slots)
			if again := ran(setup, &n, inputs); !slices.Equal(first, again) {
				t.Fatalf("%s: %q with one input, %q with %d", text, first, again, inputs)
			}
		}
		if slices.ContainsFunc(first, isWrong) {
			t.Errorf("%s: %q", text, first)
		}
		branches += strings.Count(text, "if ")
	}
	if branches < 300 {
		t.Error(branches)
	}
}

// P10.7

// renamed returns a program with its names replaced one to one.
func renamed(m *maker, n api.Node) api.Node {
	n = sample.Copy(n)
	names := map[string]string{}
	taken := map[string]bool{"mux": true, "sort": true, "secret": true, "len": true}
	for name := range taken {
		names[name] = name
	}
	for _, word := range strings.Fields("in from let if else for to out all def return num bit word") {
		taken[word] = true
		names[word] = word
	}
	for _, place := range sample.Nodes(&n) {
		if !hasName(place) {
			continue
		}
		name, known := names[place.Text]
		for !known {
			name = pick(m, "a", "b", "c", "x", "muxx", "le", "all1", "in_", "words", "t1", "q") + pick(m, "", "", "_", "0", "7", strings.Repeat("z", 18))
			known = !taken[name]
		}
		names[place.Text] = name
		taken[name] = true
		place.Text = name
	}
	return n
}

// Renaming changes neither the error nor the results.
func TestRenaming(t *testing.T) {
	accepted := 0
	for i := range 1200 {
		m := newMaker(int64(i), 100)
		n := parsed(t, m.Program())
		other := renamed(m, n)
		e := check.Check(setup, n)
		if e == api.OK {
			accepted++
		}
		judges(t, setup, other, "a renamed program", e)
		slots, _ := check.Slots(setup, n)
		others, _ := check.Slots(setup, other)
		outs, _ := check.Outs(setup, n)
		types, _ := check.Outs(setup, other)
		if !slices.Equal(slots, others) || !slices.Equal(outs, types) {
			t.Error(n, slots, others, outs, types)
		}
	}
	if accepted < 400 {
		t.Error(accepted)
	}
}

package mean_test

import (
	"testing"

	"junto/api"
	"junto/check"
	"junto/mean"
)

// agrees checks the outputs, the number of nodes and the error of a program against the reference.
func agrees(t *testing.T, s api.Setup, text string, n api.Node, inputs []uint64) api.Errno {
	t.Helper()
	want, nodes, e := referred(s.P, n, inputs)
	if l, got := mean.Run(s, n, inputs); got != e || !same(l, want) {
		t.Errorf("Run(%q, %d) is %q with error %d, not %q with error %d", text, inputs, spell(l), got, spell(want), e)
	}
	if w, got := mean.Work(s, n); w != nodes || got != e {
		t.Errorf("Work(%q) is %d with error %d, not %d with error %d", text, w, got, nodes, e)
	}
	return e
}

// Random programs that are accepted have the outputs of the reference.
func TestRandomPrograms(t *testing.T) {
	found := map[api.Errno]int{}
	for i := range 3000 {
		m := newMaker(int64(i), 1000000)
		m.Widths = [2]int{pick(m, 2, 2, 3, 5), pick(m, 3, 4, 16)}
		s := modulo(pick(m, uint64(7), 7, 11, 11, 13, 31))
		text := m.In() + m.Program()
		n := parsed(t, text)
		slots, e := check.Slots(s, n)
		if e != api.OK {
			continue
		}
		for range 2 {
			found[agrees(t, s, text, n, m.inputs(s.P, slots))]++
		}
	}
	if found[api.OK] < 3500 || found[api.ErrRange] < 500 || len(found) > 3 {
		t.Error(found)
	}
}

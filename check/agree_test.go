package check_test

import (
	"slices"
	"testing"

	"junto/api"
	"junto/check"
	"junto/parse"
	"junto/sample"
	"junto/token"
)

// Check, Slots and Outs against the reference, for random programs.

// agrees checks a program against the reference and returns its error.
func agrees(t *testing.T, n api.Node) api.Errno {
	t.Helper()
	slots, outs, want := judged(setup, n)
	text, _ := parse.Text(n)
	judges(t, setup, n, text, want)
	if got, _ := check.Slots(setup, n); !slices.Equal(got, slots) {
		t.Errorf("Slots of %s: %v, not %v", text, got, slots)
	}
	if got, _ := check.Outs(setup, n); !slices.Equal(got, outs) {
		t.Errorf("Outs of %s: %v, not %v", text, got, outs)
	}
	return want
}

// often checks that each of the errors was found often.
func often(t *testing.T, found map[api.Errno]int, errors ...api.Errno) {
	t.Helper()
	for _, e := range errors {
		if found[e] < 20 {
			t.Error(e, found)
		}
	}
}

func TestRandomPrograms(t *testing.T) {
	found := map[api.Errno]int{}
	for i := range 2500 {
		m := newMaker(int64(i), []int{20, 100, 1000}[i%3])
		found[agrees(t, parsed(t, m.Program()))]++
	}
	often(t, found, api.OK, api.ErrArg, api.ErrTwice, api.ErrState, api.ErrType, api.ErrName)
}

// Programs that are accepted in which some parts are replaced by others.
func TestChangedPrograms(t *testing.T) {
	found := map[api.Errno]int{}
	for i := range 2500 {
		m := newMaker(int64(i), 1000000)
		n := parsed(t, m.Program())
		for range 1 + m.Intn(2) {
			m.change(&n)
		}
		if parse.Check(n) == api.OK {
			found[agrees(t, n)]++
		}
	}
	often(t, found, api.OK, api.ErrTwice, api.ErrState, api.ErrType, api.ErrName)
}

// change replaces a name, a number or an expression by another one, or copies an item to another place.
func (m *maker) change(n *api.Node) {
	switch m.Intn(4) {
	case 0:
		name := m.node(n, hasName).Text
		m.node(n, hasName).Text = name
	case 1:
		m.node(n, hasNumber).Num = uint64(pick(m, 0, 1, 6, 17, 33))
	case 2:
		e := sample.Copy(*m.node(n, isExpr))
		*m.node(n, isExpr) = e
	case 3:
		item := sample.Copy(*m.node(n, isItem))
		l := m.node(n, isBlock)
		l.Kids = slices.Insert(l.Kids, m.Intn(len(l.Kids)+1), item)
	}
}

// node returns a random node with a property, or else the root.
func (m *maker) node(n *api.Node, holds func(n *api.Node) bool) *api.Node {
	var l []*api.Node
	for _, place := range sample.Nodes(n) {
		if holds(place) {
			l = append(l, place)
		}
	}
	if len(l) == 0 {
		return n
	}
	return pick(m, l...)
}

func hasName(n *api.Node) bool {
	return token.IsName(n.Text)
}

func hasNumber(n *api.Node) bool {
	return n.Kind == api.NoNumber || n.Kind == api.NoTo || n.Kind == api.NoIn
}

func isExpr(n *api.Node) bool {
	return n.Kind >= api.NoNumber
}

func isItem(n *api.Node) bool {
	return n.Kind >= api.NoIn && n.Kind <= api.NoDef
}

func isBlock(n *api.Node) bool {
	return n.Kind == api.NoBlock || n.Kind == api.NoProgram
}

// Random programs at the limit of the work.
func TestRandomWork(t *testing.T) {
	found := map[api.Errno]int{}
	for i := range 16 {
		m := newMaker(int64(i), 200)
		found[agrees(t, parsed(t, used(api.MaxWork-m.Intn(300))+m.Program()))]++
	}
	if found[api.ErrLimit] < 4 || found[api.ErrLimit] > 12 {
		t.Error(found)
	}
}

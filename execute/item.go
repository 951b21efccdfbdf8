package execute

import (
	"maps"
	"slices"

	"junto/api"
)

func (m *machine[V]) items(l []api.Node) {
	for _, n := range l {
		m.visit()
		m.item(n)
	}
}

func (m *machine[V]) item(n api.Node) {
	switch n.Kind {
	case api.NoIn:
		m.in(n)
	case api.NoLet:
		v := m.expr(n.Kids[0])
		v.kind.Secret = v.kind.Secret || m.hidden
		m.scope.declare(n.Text, v)
	case api.NoSet:
		v := m.expr(n.Kids[0])
		m.scope.assign(n.Text, v.items)
	case api.NoPut:
		m.put(n)
	case api.NoIf:
		m.choice(n)
	case api.NoFor:
		m.loop(n)
	case api.NoOut:
		m.out(n)
	case api.NoDef:
		m.procedures[n.Text] = n
	}
}

func (m *machine[V]) in(n api.Node) {
	kind := n.Kids[0]
	t := api.Type{Kind: int(kind.Num), Bits: int(kind.Kids[0].Num), Items: int(kind.Kids[1].Num), Secret: true}
	items := make([]V, max(t.Items, 1))
	for i := range items {
		items[i] = m.values.In(plain(t))
	}
	m.scope.declare(n.Text, value[V]{t, items})
}

func (m *machine[V]) put(n api.Node) {
	index := m.known(n.Kids[0])
	element := m.expr(n.Kids[1])
	items := slices.Clone(m.scope.variables[n.Text].items)
	m.require(index < uint64(len(items)), api.ErrRange)
	items[index] = element.items[0]
	m.scope.assign(n.Text, items)
}

func (m *machine[V]) choice(n api.Node) {
	condition := m.expr(n.Kids[0])
	switch {
	case condition.kind.Secret:
		m.both(condition.items[0], n.Kids[1], n.Kids[2])
	case m.values.Known(condition.items[0]) == 1:
		m.block(n.Kids[1])
	default:
		m.block(n.Kids[2])
	}
}

// both executes both blocks of an if with a secret condition.
func (m *machine[V]) both(condition V, yes, no api.Node) {
	outer := m.hidden
	m.hidden = true
	first := m.branch(yes)
	second := m.branch(no)
	m.hidden = outer
	assigned := maps.Clone(first)
	maps.Copy(assigned, second)
	for _, name := range slices.Sorted(maps.Keys(assigned)) {
		m.scope.assign(name, m.pick(condition, m.scope.after(first, name), m.scope.after(second, name)))
	}
}

// branch executes a block, and undoes and returns what it assigns to the variables that existed before.
func (m *machine[V]) branch(n api.Node) map[string][]V {
	outer := m.scope.before
	before := map[string][]V{}
	m.scope.before = before
	m.block(n)
	m.scope.before = outer
	return m.scope.undo(before)
}

func (m *machine[V]) loop(n api.Node) {
	first := m.known(n.Kids[0])
	last := m.known(n.Kids[1])
	before := len(m.scope.names)
	for i := first; i <= last; i++ {
		m.scope.declare(n.Text, m.number(i))
		m.block(n.Kids[2])
		m.scope.forget(before)
	}
}

// block executes a block at whose end its variables are forgotten.
func (m *machine[V]) block(n api.Node) {
	before := len(m.scope.names)
	m.open(n)
	m.scope.forget(before)
}

// open executes a block whose variables stay visible.
func (m *machine[V]) open(n api.Node) {
	m.visit()
	m.items(n.Kids)
}

func (m *machine[V]) out(n api.Node) {
	v := m.expr(n.Kids[0])
	m.outs++
	m.require(m.outs <= maxOuts, api.ErrLimit)
	var to []int
	for _, recipient := range n.Kids[1:] {
		to = append(to, int(recipient.Num))
	}
	m.values.Out(to, v.kind, v.items)
}

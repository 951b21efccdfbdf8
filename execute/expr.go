package execute

import (
	"junto/api"
	"junto/check"
)

func (m *machine[V]) expr(n api.Node) value[V] {
	m.visit()
	switch n.Kind {
	case api.NoNumber:
		return m.number(n.Num)
	case api.NoName:
		return m.scope.variables[n.Text]
	}
	parts := make([]value[V], len(n.Kids))
	for i, kid := range n.Kids {
		parts[i] = m.expr(kid)
	}
	switch n.Kind {
	case api.NoCall:
		return m.call(n, parts)
	case api.NoItem:
		return m.element(parts[0], m.values.Known(parts[1].items[0]))
	case api.NoList:
		return list(parts)
	case api.NoUnary:
		x := parts[0]
		t, _ := check.Unary(n.Text, x.kind)
		return one(t, m.values.Unary(n.Text, x.kind, x.items[0]))
	}
	x, y := parts[0], parts[1]
	t, _ := check.Binary(n.Text, x.kind, y.kind)
	return one(t, m.values.Binary(n.Text, x.kind, x.items[0], y.items[0]))
}

// number returns a public num.
func (m *machine[V]) number(n uint64) value[V] {
	return one(api.Type{Kind: api.TyNum}, m.values.Number(n))
}

// known returns the number that a public expression is.
func (m *machine[V]) known(n api.Node) uint64 {
	return m.values.Known(m.expr(n).items[0])
}

// element returns the element of an array, or the bit of a word, with the index i.
func (m *machine[V]) element(x value[V], i uint64) value[V] {
	t, _ := check.Item(x.kind)
	if x.kind.Items > 0 {
		m.require(i < uint64(x.kind.Items), api.ErrRange)
		return one(t, x.items[i])
	}
	m.require(i < uint64(x.kind.Bits), api.ErrRange)
	return one(t, m.values.Bit(x.items[0], int(i)))
}

func list[V any](elements []value[V]) value[V] {
	t, _ := check.List(kinds(elements))
	var items []V
	for _, element := range elements {
		items = append(items, element.items...)
	}
	return value[V]{t, items}
}

func (m *machine[V]) call(n api.Node, arguments []value[V]) value[V] {
	def, found := m.procedures[n.Text]
	switch {
	case found:
		return m.procedure(def, arguments)
	case n.Text == "word":
		t, _ := check.Call(n.Text, int(n.Kids[0].Num), kinds(arguments[1:]))
		return one(t, m.values.Convert(arguments[1].kind, t, arguments[1].items[0]))
	}
	t, _ := check.Call(n.Text, 0, kinds(arguments))
	return m.builtIn(n.Text, t, arguments)
}

// builtIn returns the result, of type t, of a function that every program has, but not of word.
func (m *machine[V]) builtIn(name string, t api.Type, arguments []value[V]) value[V] {
	x := arguments[0]
	switch name {
	case "mux":
		return value[V]{t, m.pick(x.items[0], arguments[1].items, arguments[2].items)}
	case "sort":
		return value[V]{t, m.values.Sort(plain(t), x.items)}
	case "secret":
		return value[V]{t, x.items}
	case "len":
		return m.number(length(x.kind))
	}
	return one(t, m.values.Convert(x.kind, t, x.items[0]))
}

// length returns the number of elements of an array or of bits of a word.
func length(t api.Type) uint64 {
	if t.Items > 0 {
		return uint64(t.Items)
	}
	return uint64(t.Bits)
}

// pick returns the elements of x if the condition is 1, and otherwise those of y.
func (m *machine[V]) pick(condition V, x, y []V) []V {
	items := make([]V, len(x))
	for i := range items {
		items[i] = m.values.Pick(condition, x[i], y[i])
	}
	return items
}

// procedure executes a procedure of the program, where the caller's variables are not visible.
func (m *machine[V]) procedure(def api.Node, arguments []value[V]) value[V] {
	caller := m.scope
	m.scope = newScope[V]()
	for i, argument := range arguments {
		m.scope.declare(def.Kids[i].Text, argument)
	}
	m.open(def.Kids[len(arguments)])
	result := m.expr(def.Kids[len(arguments)+1])
	m.scope = caller
	return result
}

// one returns a value that is no array.
func one[V any](t api.Type, x V) value[V] {
	return value[V]{t, []V{x}}
}

// kinds returns the types of values.
func kinds[V any](l []value[V]) []api.Type {
	types := make([]api.Type, len(l))
	for i, x := range l {
		types[i] = x.kind
	}
	return types
}

// plain returns the type of the elements of an array, or t itself.
func plain(t api.Type) api.Type {
	t.Items = 0
	return t
}

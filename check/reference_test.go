package check_test

import (
	"maps"
	"slices"

	"junto/api"
	"junto/check"
)

// meaning is what a name stands for: a variable or a procedure, and for a procedure of the program what is visible
// before it.
type meaning struct {
	variable, loop bool
	t              api.Type
	def            *api.Node
	before         names
}

type names map[string]meaning

// plus returns the names with one more.
func (l names) plus(name string, m meaning) names {
	l = maps.Clone(l)
	l[name] = m
	return l
}

// procedures returns the names without those of variables.
func (l names) procedures() names {
	l = maps.Clone(l)
	maps.DeleteFunc(l, func(name string, m meaning) bool { return m.variable })
	return l
}

// place is where a node stands: what is visible there, and what is around it.
type place struct {
	names                     names
	block, procedure, private bool
}

func (p place) without(names names) place {
	p.names = names
	return p
}

// judge is the reference for programs. Its methods panic with an error.
type judge struct {
	setup api.Setup
	nodes int
	slots []api.Slot
	outs  []api.Type
}

// judged returns the reference's slots, output types and error for a program that parse.Check accepts.
func judged(s api.Setup, n api.Node) (slots []api.Slot, outs []api.Type, e api.Errno) {
	defer func() {
		if r := recover(); r != nil {
			slots, outs, e = nil, nil, r.(api.Errno)
		}
	}()
	j := judge{setup: s}
	start := names{}
	for _, name := range []string{"num", "bit", "word", "mux", "sort", "secret", "len"} {
		start[name] = meaning{}
	}
	j.items(place{names: start}, n.Kids)
	return j.slots, j.outs, api.OK
}

func reject(bad bool, e api.Errno) {
	if bad {
		panic(e)
	}
}

func (j *judge) count() {
	j.nodes++
	reject(j.nodes > 262144, api.ErrLimit)
}

// items returns the names that are visible after the items.
func (j *judge) items(p place, l []api.Node) names {
	for i := range l {
		j.count()
		p.names = j.item(p, &l[i])
	}
	return p.names
}

func (j *judge) block(p place, n api.Node) names {
	j.count()
	p.block = true
	return j.items(p, n.Kids)
}

func fresh(p place, name string) {
	_, visible := p.names[name]
	reject(visible, api.ErrTwice)
}

// kindOf returns the type that a node describes.
func kindOf(n api.Node) api.Type {
	return api.Type{Kind: int(n.Num), Bits: int(n.Kids[0].Num), Items: int(n.Kids[1].Num)}
}

// item returns the names that are visible after the item.
func (j *judge) item(p place, n *api.Node) names {
	switch n.Kind {
	case api.NoIn:
		return j.in(p, n)
	case api.NoLet:
		t := j.expr(p, n.Kids[0])
		fresh(p, n.Text)
		return p.names.plus(n.Text, meaning{variable: true, t: api.Type{Kind: t.Kind, Bits: t.Bits, Items: t.Items, Secret: t.Secret || p.private}})
	case api.NoSet, api.NoPut:
		j.assign(p, n)
	case api.NoIf:
		c := j.expr(p, n.Kids[0])
		reject(public(c) != bit, api.ErrType)
		p.private = p.private || c.Secret
		j.block(p, n.Kids[1])
		j.block(p, n.Kids[2])
	case api.NoFor:
		first, last := j.expr(p, n.Kids[0]), j.expr(p, n.Kids[1])
		reject(first != num || last != num, api.ErrType)
		fresh(p, n.Text)
		j.block(p.without(p.names.plus(n.Text, meaning{variable: true, loop: true, t: num})), n.Kids[2])
	case api.NoOut:
		reject(p.procedure || p.private, api.ErrState)
		j.outs = append(j.outs, j.expr(p, n.Kids[0]))
		to := []int{0}
		for _, kid := range n.Kids[1:] {
			to = append(to, int(kid.Num))
		}
		reject(!slices.IsSorted(to) || len(slices.Compact(slices.Clone(to))) < len(to) || slices.Max(to) > j.setup.N, api.ErrArg)
	case api.NoDef:
		return j.def(p, n)
	}
	return p.names
}

func (j *judge) in(p place, n *api.Node) names {
	reject(p.block, api.ErrState)
	fresh(p, n.Text)
	t := kindOf(n.Kids[0])
	reject(!check.IsType(t) || n.Num < 1 || n.Num > uint64(j.setup.N), api.ErrArg)
	j.slots = append(j.slots, slices.Repeat([]api.Slot{{Party: int(n.Num), Bit: t.Kind != api.TyNum}}, check.Size(t))...)
	reject(len(j.slots) > 256, api.ErrLimit)
	return p.names.plus(n.Text, meaning{variable: true, t: secret(t)})
}

func (j *judge) assign(p place, n *api.Node) {
	var l []api.Type
	for _, kid := range n.Kids {
		l = append(l, j.expr(p, kid))
	}
	v := p.names[n.Text]
	reject(!v.variable, api.ErrName)
	reject(v.loop, api.ErrType)
	if n.Kind == api.NoPut {
		reject(v.t.Items == 0 || l[0] != num, api.ErrType)
		v.t.Items = 0
	}
	value := l[len(l)-1]
	reject(public(value) != public(v.t), api.ErrType)
	reject(!v.t.Secret && (value.Secret || p.private), api.ErrType)
}

func (j *judge) def(p place, n *api.Node) names {
	reject(p.block, api.ErrState)
	fresh(p, n.Text)
	args := n.Kids[:len(n.Kids)-2]
	reject(len(args) > 8, api.ErrLimit)
	taken := p.names.procedures().plus(n.Text, meaning{})
	for _, arg := range args {
		fresh(place{names: taken}, arg.Text)
		taken = taken.plus(arg.Text, meaning{})
	}
	for _, arg := range args {
		reject(!check.IsType(kindOf(arg.Kids[0])), api.ErrArg)
	}
	return p.names.plus(n.Text, meaning{def: n, before: p.names.procedures()})
}

func (j *judge) expr(p place, n api.Node) api.Type {
	j.count()
	var l []api.Type
	for _, kid := range n.Kids {
		l = append(l, j.expr(p, kid))
	}
	var t api.Type
	var e api.Errno
	m, visible := p.names[n.Text]
	switch n.Kind {
	case api.NoNumber:
		return num
	case api.NoName:
		reject(!visible || !m.variable, api.ErrName)
		return m.t
	case api.NoItem:
		reject(l[1] != num, api.ErrType)
		t, e = check.Item(l[0])
	case api.NoList:
		t, e = check.List(l)
	case api.NoUnary:
		t, e = check.Unary(n.Text, l[0])
	case api.NoBinary:
		t, e = check.Binary(n.Text, l[0], l[1])
	case api.NoCall:
		reject(!visible || m.variable, api.ErrName)
		t, e = j.call(p, m, n, l)
	}
	reject(e != api.OK, e)
	return t
}

func (j *judge) call(p place, m meaning, n api.Node, l []api.Type) (api.Type, api.Errno) {
	if m.def == nil && n.Text == "word" {
		reject(len(l) == 0 || n.Kids[0].Kind != api.NoNumber, api.ErrType)
		return check.Call("word", int(n.Kids[0].Num), l[1:])
	}
	if m.def == nil {
		return check.Call(n.Text, 0, l)
	}
	args := m.def.Kids[:len(m.def.Kids)-2]
	reject(len(l) != len(args), api.ErrType)
	inner := m.before
	for i, arg := range args {
		reject(public(l[i]) != kindOf(arg.Kids[0]), api.ErrType)
		inner = inner.plus(arg.Text, meaning{variable: true, t: l[i]})
	}
	p = place{names: inner, procedure: true, private: p.private}
	p.names = j.block(p, m.def.Kids[len(args)])
	return j.expr(p, m.def.Kids[len(args)+1]), api.OK
}

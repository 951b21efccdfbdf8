package check_test

import (
	"fmt"
	"maps"
	"slices"

	"junto/api"
	"junto/check"
)

// The values of programs, for the theorems. What is secret is followed while a program runs, and a secret condition
// lets both blocks run.

// value is a number, or the numbers of an array.
type value struct {
	t api.Type
	l []uint64
}

// cell is a variable, or a procedure and what is visible before it.
type cell struct {
	value
	def    *api.Node
	before map[string]*cell
}

// runner runs a program and notes everything that is public: which items run, what they output to whom, and what the
// public variables are.
type runner struct {
	setup  api.Setup
	inputs []uint64
	outs   map[*api.Node]api.Type
	notes  []string
}

// stopped is a panic that ends a run early.
type stopped struct{}

// ran returns the notes of a run.
func ran(s api.Setup, n *api.Node, inputs []uint64) []string {
	r := runner{setup: s, inputs: inputs, outs: map[*api.Node]api.Type{}}
	types, _ := check.Outs(s, *n)
	outs := outsOf(n)
	r.note("outputs", len(outs) == len(types))
	for i, out := range outs {
		r.outs[out] = types[i]
	}
	r.run(n)
	return r.notes
}

// outsOf returns the outputs of a program, but not those of procedures that are never called.
func outsOf(n *api.Node) []*api.Node {
	if n.Kind == api.NoOut {
		return []*api.Node{n}
	}
	var l []*api.Node
	for i := range n.Kids {
		if n.Kids[i].Kind != api.NoDef {
			l = append(l, outsOf(&n.Kids[i])...)
		}
	}
	return l
}

func (r *runner) run(n *api.Node) {
	defer func() {
		if e := recover(); e != nil && e != (stopped{}) {
			panic(e)
		}
	}()
	r.items(map[string]*cell{}, n.Kids, false)
}

// note adds a line. A run ends when it has many.
func (r *runner) note(l ...any) {
	r.notes = append(r.notes, fmt.Sprint(l...))
	if len(r.notes) > 1000 {
		panic(stopped{})
	}
}

// inRange ends the run unless there is an element with this index.
func (r *runner) inRange(i uint64, n int) {
	if i >= uint64(n) {
		r.note("no element ", i)
		panic(stopped{})
	}
}

func (r *runner) items(names map[string]*cell, l []api.Node, private bool) map[string]*cell {
	names = maps.Clone(names)
	for i := range l {
		n := &l[i]
		r.note(n.Kind, n.Text)
		r.item(names, n, private)
		for _, name := range slices.Sorted(maps.Keys(names)) {
			if v := names[name]; v.def == nil && !v.t.Secret {
				r.note(name, v.l)
			}
		}
	}
	return names
}

func (r *runner) item(names map[string]*cell, n *api.Node, private bool) {
	switch n.Kind {
	case api.NoIn:
		t := secret(kindOf(n.Kids[0]))
		names[n.Text] = &cell{value: value{t, r.read(t)}}
	case api.NoLet:
		v := r.expr(names, &n.Kids[0], private)
		v.t.Secret = v.t.Secret || private
		names[n.Text] = &cell{value: v}
	case api.NoSet:
		v := r.expr(names, &n.Kids[0], private)
		names[n.Text].l = v.l
	case api.NoPut:
		i := r.expr(names, &n.Kids[0], private).l[0]
		v := r.expr(names, &n.Kids[1], private)
		r.inRange(i, len(names[n.Text].l))
		l := slices.Clone(names[n.Text].l)
		l[i] = v.l[0]
		names[n.Text].l = l
	case api.NoIf:
		r.choice(names, n, private)
	case api.NoFor:
		last := r.expr(names, &n.Kids[1], private).l[0]
		for i := r.expr(names, &n.Kids[0], private).l[0]; i <= last; i++ {
			inner := maps.Clone(names)
			inner[n.Text] = &cell{value: value{num, []uint64{i}}}
			r.items(inner, n.Kids[2].Kids, private)
		}
	case api.NoOut:
		r.output(r.expr(names, &n.Kids[0], private), n)
	case api.NoDef:
		names[n.Text] = &cell{def: n, before: maps.Clone(names)}
		maps.DeleteFunc(names[n.Text].before, func(name string, c *cell) bool { return c.def == nil })
	}
}

// read returns the next input of a type.
func (r *runner) read(t api.Type) []uint64 {
	var l []uint64
	for range max(t.Items, 1) {
		x := uint64(0)
		for i := range max(t.Bits, 1) {
			x |= r.inputs[i] << i
		}
		r.inputs = r.inputs[max(t.Bits, 1):]
		l = append(l, x)
	}
	return l
}

func (r *runner) choice(names map[string]*cell, n *api.Node, private bool) {
	c := r.expr(names, &n.Kids[0], private)
	if !c.t.Secret {
		r.items(names, n.Kids[2-c.l[0]].Kids, private)
		return
	}
	before := values(names)
	r.items(names, n.Kids[1].Kids, true)
	first := values(names)
	restore(names, before)
	r.items(names, n.Kids[2].Kids, true)
	if c.l[0] == 1 {
		restore(names, first)
	}
}

func values(names map[string]*cell) map[string][]uint64 {
	l := map[string][]uint64{}
	for name, c := range names {
		l[name] = c.l
	}
	return l
}

func restore(names map[string]*cell, l map[string][]uint64) {
	for name, c := range names {
		c.l = l[name]
	}
}

// output notes the recipients, the type and, if it is public, the value. The type is the one that Outs returns.
func (r *runner) output(v value, n *api.Node) {
	for _, to := range n.Kids[1:] {
		r.note("to ", to.Num)
	}
	r.note("out ", v.t, r.outs[n] == v.t)
	if !r.outs[n].Secret {
		r.note(v.l)
	}
}

// expr returns the value of an expression. Its type is given by the functions of the package.
func (r *runner) expr(names map[string]*cell, n *api.Node, private bool) value {
	switch n.Kind {
	case api.NoNumber:
		return value{num, []uint64{n.Num % r.setup.P}}
	case api.NoName:
		return names[n.Text].value
	}
	var l []value
	var types []api.Type
	for i := range n.Kids {
		v := r.expr(names, &n.Kids[i], private)
		l = append(l, v)
		types = append(types, v.t)
	}
	switch n.Kind {
	case api.NoItem:
		t, _ := check.Item(types[0])
		return value{t, []uint64{r.element(l[0], l[1].l[0])}}
	case api.NoList:
		t, _ := check.List(types)
		var all []uint64
		for _, v := range l {
			all = append(all, v.l...)
		}
		return value{t, all}
	case api.NoUnary:
		t, _ := check.Unary(n.Text, types[0])
		return value{t, []uint64{r.wrapped(t, r.negative(n.Text, t, l[0].l[0]))}}
	case api.NoBinary:
		t, _ := check.Binary(n.Text, types[0], types[1])
		return value{t, []uint64{r.wrapped(t, r.binary(n.Text, l[0].l[0], l[1].l[0]))}}
	}
	if p := names[n.Text]; p != nil {
		return r.call(p, l, private)
	}
	return r.builtIn(n, l, types)
}

func (r *runner) element(v value, i uint64) uint64 {
	if v.t.Items > 0 {
		r.inRange(i, len(v.l))
		return v.l[i]
	}
	r.inRange(i, v.t.Bits)
	return v.l[0] >> i & 1
}

// wrapped returns a number modulo the number of values that a type has.
func (r *runner) wrapped(t api.Type, x uint64) uint64 {
	switch t.Kind {
	case api.TyNum:
		return x % r.setup.P
	case api.TyBit:
		return x % 2
	}
	return x % (1 << t.Bits)
}

func (r *runner) negative(sign string, t api.Type, x uint64) uint64 {
	if sign == "-" {
		return r.setup.P - x
	}
	return ^x
}

func (r *runner) binary(sign string, x, y uint64) uint64 {
	switch sign {
	case "+":
		return x + y
	case "-":
		return x + r.setup.P<<16 - y
	case "*":
		return x * y
	case "&":
		return x & y
	case "|":
		return x | y
	case "^":
		return x ^ y
	}
	if sign == "==" && x == y || sign == "<" && x < y {
		return 1
	}
	return 0
}

func (r *runner) call(p *cell, l []value, private bool) value {
	names := maps.Clone(p.before)
	last := len(p.def.Kids) - 2
	for i, v := range l {
		names[p.def.Kids[i].Text] = &cell{value: v}
	}
	names = r.items(names, p.def.Kids[last].Kids, private)
	return r.expr(names, &p.def.Kids[last+1], private)
}

func (r *runner) builtIn(n *api.Node, l []value, types []api.Type) value {
	if n.Text == "word" {
		t, _ := check.Call("word", int(n.Kids[0].Num), types[1:])
		return value{t, []uint64{r.wrapped(t, l[1].l[0])}}
	}
	t, _ := check.Call(n.Text, 0, types)
	v := value{t, l[0].l}
	switch n.Text {
	case "num":
		v.l = []uint64{r.wrapped(t, v.l[0])}
	case "bit":
		v.l = []uint64{min(v.l[0], 1)}
	case "mux":
		v.l = l[2-l[0].l[0]].l
	case "sort":
		v.l = slices.Sorted(slices.Values(v.l))
	case "len":
		v.l = []uint64{uint64(max(len(v.l), types[0].Bits))}
		if types[0].Items > 0 {
			v.l = []uint64{uint64(types[0].Items)}
		}
	}
	return v
}

package mean_test

import (
	"maps"
	"slices"

	"junto/api"
)

// The reference for the execution of programs. Its values are flat values, so that it computes with words bit by bit,
// and its blocks work on copies of the variables.

type flatValue struct {
	t api.Type
	l []uint64
}

type variables map[string]flatValue

// with returns the variables with one changed or added.
func (v variables) with(name string, x flatValue) variables {
	v = maps.Clone(v)
	v[name] = x
	return v
}

// of returns the values of the variables that others contain, too.
func (v variables) of(others variables) variables {
	v = maps.Clone(v)
	maps.DeleteFunc(v, func(name string, _ flatValue) bool { _, found := others[name]; return !found })
	return v
}

// reference executes a program that is accepted. Its methods panic with ErrRange or ErrLimit.
type reference struct {
	p      uint64
	inputs []uint64
	defs   map[string]api.Node
	told   []api.Told
	nodes  int
}

// referred returns the reference's outputs, number of nodes and error. A value that is no bit must be none.
func referred(p uint64, n api.Node, inputs []uint64) (told []api.Told, nodes int, e api.Errno) {
	defer func() {
		if r := recover(); r != nil {
			told, nodes, e = nil, 0, r.(api.Errno)
		}
	}()
	r := reference{p: p, inputs: inputs, defs: map[string]api.Node{}}
	r.items(variables{}, n.Kids, false)
	return r.told, r.nodes, api.OK
}

func (r *reference) count() {
	r.nodes++
	if r.nodes > 262144 {
		panic(api.ErrLimit)
	}
}

func (r *reference) items(v variables, l []api.Node, hidden bool) variables {
	for i := range l {
		r.count()
		v = r.item(v, &l[i], hidden)
	}
	return v
}

func (r *reference) block(v variables, n api.Node, hidden bool) variables {
	r.count()
	return r.items(v, n.Kids, hidden).of(v)
}

func (r *reference) item(v variables, n *api.Node, hidden bool) variables {
	var l []flatValue
	for i := range n.Kids {
		if kind := n.Kids[i].Kind; n.Kind != api.NoDef && kind >= api.NoNumber {
			l = append(l, r.expr(v, &n.Kids[i], hidden))
		}
	}
	switch n.Kind {
	case api.NoIn:
		t := api.Type{Kind: int(n.Kids[0].Num), Bits: int(n.Kids[0].Kids[0].Num), Items: int(n.Kids[0].Kids[1].Num), Secret: true}
		x := flatValue{t, make([]uint64, max(t.Bits, 1)*max(t.Items, 1))}
		for i := range x.l {
			if x.l[i] = r.inputs[i]; t.Kind != api.TyNum && x.l[i] > 1 {
				x.l[i] = 0
			}
		}
		r.inputs = r.inputs[len(x.l):]
		return v.with(n.Text, x)
	case api.NoLet:
		l[0].t.Secret = l[0].t.Secret || hidden
		return v.with(n.Text, l[0])
	case api.NoSet:
		return v.with(n.Text, flatValue{v[n.Text].t, l[0].l})
	case api.NoPut:
		elements := v[n.Text].elements()
		inRange(l[0], len(elements))
		elements[l[0].l[0]] = l[1].l
		return v.with(n.Text, flatValue{v[n.Text].t, slices.Concat(elements...)})
	case api.NoIf:
		return r.choice(v, n, l[0], hidden)
	case api.NoFor:
		for i := l[0].l[0]; i <= l[1].l[0]; i++ {
			v = r.block(v.with(n.Text, number(i)), n.Kids[2], hidden).of(v)
		}
	case api.NoOut:
		var to []int
		for _, party := range n.Kids[1:] {
			to = append(to, int(party.Num))
		}
		r.told = append(r.told, api.Told{To: to, Values: l[0].l})
		if len(r.told) > 4096 {
			panic(api.ErrLimit)
		}
	case api.NoDef:
		r.defs[n.Text] = *n
	}
	return v
}

func (r *reference) choice(v variables, n *api.Node, condition flatValue, hidden bool) variables {
	selected := 2 - condition.l[0]
	if !condition.t.Secret {
		return r.block(v, n.Kids[selected], hidden)
	}
	results := []variables{nil, r.block(v, n.Kids[1], true)}
	return append(results, r.block(v, n.Kids[2], true))[selected]
}

func inRange(index flatValue, n int) {
	if index.l[0] >= uint64(n) {
		panic(api.ErrRange)
	}
}

// elements returns the flat values of the elements of an array.
func (x flatValue) elements() [][]uint64 {
	return slices.Collect(slices.Chunk(slices.Clone(x.l), max(x.t.Bits, 1)))
}

func number(x uint64) flatValue {
	return flatValue{api.Type{Kind: api.TyNum}, []uint64{x}}
}

func (r *reference) expr(v variables, n *api.Node, hidden bool) flatValue {
	r.count()
	var l []flatValue
	secret := false
	for i := range n.Kids {
		x := r.expr(v, &n.Kids[i], hidden)
		secret = secret || x.t.Secret
		l = append(l, x)
	}
	var x flatValue
	switch n.Kind {
	case api.NoNumber:
		return number(n.Num % r.p)
	case api.NoName:
		return v[n.Text]
	case api.NoCall:
		if def, found := r.defs[n.Text]; found {
			return r.call(def, l, hidden)
		}
		x = r.builtIn(n, l)
		secret = n.Text != "len" && secret || n.Text == "secret"
	case api.NoItem:
		return item(l[0], l[1])
	case api.NoList:
		x.t = l[0].t
		x.t.Items = len(l)
		for _, element := range l {
			x.l = append(x.l, element.l...)
		}
	case api.NoUnary:
		x = flatValue{l[0].t, flipped(l[0].l)}
		if n.Text == "-" {
			x.l = []uint64{(r.p - l[0].l[0]) % r.p}
		}
	case api.NoBinary:
		x = r.binary(n.Text, l[0].t, l[0].l, l[1].l)
	}
	x.t.Secret = secret
	return x
}

func item(x, index flatValue) flatValue {
	t := api.Type{Kind: api.TyBit, Secret: x.t.Secret}
	elements := slices.Collect(slices.Chunk(x.l, 1))
	if x.t.Items > 0 {
		t = x.t
		t.Items = 0
		elements = x.elements()
	}
	inRange(index, len(elements))
	return flatValue{t, elements[index.l[0]]}
}

func (r *reference) call(def api.Node, l []flatValue, hidden bool) flatValue {
	v := variables{}
	for i, x := range l {
		v = v.with(def.Kids[i].Text, x)
	}
	r.count()
	v = r.items(v, def.Kids[len(l)].Kids, hidden)
	return r.expr(v, &def.Kids[len(l)+1], hidden)
}

func (r *reference) builtIn(n *api.Node, l []flatValue) flatValue {
	x := l[0]
	switch n.Text {
	case "num":
		x.t = api.Type{Kind: api.TyNum}
		x.l = []uint64{r.valueOf(x.l)}
	case "bit":
		x.t = api.Type{Kind: api.TyBit}
		x.l = []uint64{one(x.l[0] != 0)}
	case "word":
		return r.word(int(n.Kids[0].Num), l[1])
	case "mux":
		return l[2-x.l[0]]
	case "sort":
		elements := x.elements()
		slices.SortFunc(elements, func(x, y []uint64) int { return int(isLess(y, x)) - int(isLess(x, y)) })
		x.l = slices.Concat(elements...)
	case "len":
		length := len(x.l)
		if x.t.Items > 0 {
			length = len(x.elements())
		}
		return number(uint64(length) % r.p)
	}
	return x
}

// word returns a word of k bits.
func (r *reference) word(k int, x flatValue) flatValue {
	l := x.l
	if x.t.Kind == api.TyNum {
		l = bits(x.l[0], 17)
	}
	return flatValue{api.Type{Kind: api.TyWord, Bits: k}, append(slices.Clone(l), make([]uint64, k)...)[:k]}
}

// valueOf returns the field element for which a bit or a word stands, or the element itself.
func (r *reference) valueOf(l []uint64) uint64 {
	sum := uint64(0)
	for _, x := range slices.Backward(l) {
		sum = (2*sum + x) % r.p
	}
	return sum
}

// binary returns the result of an operation on values of a type.
func (r *reference) binary(sign string, t api.Type, x, y []uint64) flatValue {
	switch sign {
	case "==":
		return flatValue{api.Type{Kind: api.TyBit}, []uint64{one(slices.Equal(x, y))}}
	case "<":
		return flatValue{api.Type{Kind: api.TyBit}, []uint64{isLess(x, y)}}
	}
	if t.Kind == api.TyNum {
		sums := map[string]uint64{"+": x[0] + y[0], "-": x[0] + r.p - y[0], "*": x[0] * y[0]}
		return flatValue{t, []uint64{sums[sign] % r.p}}
	}
	switch sign {
	case "+":
		return flatValue{t, added(x, y, 0)}
	case "-":
		return flatValue{t, added(x, flipped(y), 1)}
	case "*":
		sum := make([]uint64, len(x))
		for i, bit := range y {
			if bit == 1 {
				sum = added(sum, append(make([]uint64, i), x...), 0)
			}
		}
		return flatValue{t, sum}
	}
	l := make([]uint64, len(x))
	for i := range l {
		ones := x[i] + y[i]
		l[i] = one(ones == 2 && sign != "^" || ones == 1 && sign != "&")
	}
	return flatValue{t, l}
}

// added returns the sum of two words and a carry, with the length of the first word.
func added(x, y []uint64, carry uint64) []uint64 {
	sum := make([]uint64, len(x))
	for i := range sum {
		carry += x[i] + y[i]
		sum[i] = carry % 2
		carry /= 2
	}
	return sum
}

func flipped(x []uint64) []uint64 {
	l := make([]uint64, len(x))
	for i := range l {
		l[i] = 1 - x[i]
	}
	return l
}

// isLess returns 1 if a number is less than another one, and 0 otherwise. What counts is the last difference.
func isLess(x, y []uint64) uint64 {
	less := false
	for i := range x {
		if x[i] != y[i] {
			less = x[i] < y[i]
		}
	}
	return one(less)
}

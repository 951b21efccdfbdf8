package check

import (
	"slices"

	"junto/api"
)

func (c *checker) items(l []api.Node) {
	for _, n := range l {
		c.visit()
		c.item(n)
	}
}

func (c *checker) item(n api.Node) {
	switch n.Kind {
	case api.NoIn:
		c.in(n)
	case api.NoLet:
		c.let(n)
	case api.NoSet:
		c.set(n)
	case api.NoPut:
		c.put(n)
	case api.NoIf:
		c.choice(n)
	case api.NoFor:
		c.loop(n)
	case api.NoOut:
		c.out(n)
	case api.NoDef:
		c.def(n)
	}
}

func (c *checker) in(n api.Node) {
	c.require(c.blocks == 0, api.ErrState)
	t := typeOf(n.Kids[0])
	t.Secret = true
	c.declare(n.Text, variable{kind: t})
	c.require(IsType(t) && isParty(c.setup, n.Num), api.ErrArg)
	c.require(len(c.slots)+Size(t) <= api.MaxInputs, api.ErrLimit)
	for range Size(t) {
		c.slots = append(c.slots, api.Slot{Party: int(n.Num), Bit: t.Kind != api.TyNum})
	}
}

func (c *checker) let(n api.Node) {
	t := c.expr(n.Kids[0])
	t.Secret = t.Secret || c.hidden
	c.declare(n.Text, variable{kind: t})
}

func (c *checker) set(n api.Node) {
	value := c.expr(n.Kids[0])
	c.store(c.assigned(n.Text), value)
}

func (c *checker) put(n api.Node) {
	index := c.expr(n.Kids[0])
	value := c.expr(n.Kids[1])
	array := c.assigned(n.Text)
	c.require(array.Items > 0 && isPublicNum(index), api.ErrType)
	array.Items = 0
	c.store(array, value)
}

// assigned returns the type of a variable to which the program may assign.
func (c *checker) assigned(name string) api.Type {
	v, found := c.scope.variables[name]
	c.require(found, api.ErrName)
	c.require(!v.isLoop, api.ErrType)
	return v.kind
}

// store checks that a value may be assigned, and that the assignment reveals nothing.
func (c *checker) store(place, value api.Type) {
	c.require(alike(place, value), api.ErrType)
	c.require(place.Secret || !value.Secret && !c.hidden, api.ErrType)
}

func (c *checker) choice(n api.Node) {
	condition := c.expr(n.Kids[0])
	c.require(isBit(condition), api.ErrType)
	before := c.hidden
	c.hidden = before || condition.Secret
	c.block(n.Kids[1])
	c.block(n.Kids[2])
	c.hidden = before
}

func (c *checker) loop(n api.Node) {
	first := c.expr(n.Kids[0])
	last := c.expr(n.Kids[1])
	c.require(isPublicNum(first) && isPublicNum(last), api.ErrType)
	before := len(c.scope.names)
	c.declare(n.Text, variable{kind: api.Type{Kind: api.TyNum}, isLoop: true})
	c.block(n.Kids[2])
	c.forget(before)
}

// block visits a block at whose end its variables are forgotten.
func (c *checker) block(n api.Node) {
	before := len(c.scope.names)
	c.open(n)
	c.forget(before)
}

// open visits a block whose variables stay visible.
func (c *checker) open(n api.Node) {
	c.visit()
	c.blocks++
	c.items(n.Kids)
	c.blocks--
}

func (c *checker) out(n api.Node) {
	c.require(c.calls == 0 && !c.hidden, api.ErrState)
	t := c.expr(n.Kids[0])
	c.outs = append(c.outs, t)
	before := uint64(0)
	for _, to := range n.Kids[1:] {
		c.require(isParty(c.setup, to.Num) && to.Num > before, api.ErrArg)
		before = to.Num
	}
}

func (c *checker) def(n api.Node) {
	c.require(c.blocks == 0, api.ErrState)
	c.requireNew(n.Text)
	parameters := parametersOf(n)
	c.require(len(parameters) <= api.MaxArgs, api.ErrLimit)
	names := []string{n.Text}
	for _, parameter := range parameters {
		c.require(!slices.Contains(names, parameter.Text) && !c.isFunction(parameter.Text), api.ErrTwice)
		names = append(names, parameter.Text)
	}
	for _, parameter := range parameters {
		c.require(IsType(typeOf(parameter.Kids[0])), api.ErrArg)
	}
	c.procedures[n.Text] = procedure{n, c.scope.procedures}
	c.scope.procedures++
}

// parametersOf returns the parameters of a def, which are followed by its block and its expression.
func parametersOf(def api.Node) []api.Node {
	return def.Kids[:len(def.Kids)-2]
}

// typeOf returns the public type that a program describes, which need not be valid.
func typeOf(n api.Node) api.Type {
	return api.Type{Kind: int(n.Num), Bits: int(n.Kids[0].Num), Items: int(n.Kids[1].Num)}
}

package check

import "junto/api"

// expr returns the type of an expression.
func (c *checker) expr(n api.Node) api.Type {
	c.visit()
	switch n.Kind {
	case api.NoNumber:
		return api.Type{Kind: api.TyNum}
	case api.NoName:
		v, found := c.scope.variables[n.Text]
		c.require(found, api.ErrName)
		return v.kind
	}
	parts := make([]api.Type, len(n.Kids))
	for i, kid := range n.Kids {
		parts[i] = c.expr(kid)
	}
	if p, found := c.procedure(n.Text); found && n.Kind == api.NoCall {
		return c.call(p, parts)
	}
	t, e := c.computed(n, parts)
	c.require(e == api.OK, e)
	return t
}

// computed returns the type of what is computed from parts of these types.
func (c *checker) computed(n api.Node, parts []api.Type) (api.Type, api.Errno) {
	switch n.Kind {
	case api.NoCall:
		return c.builtIn(n, parts)
	case api.NoItem:
		c.require(isPublicNum(parts[1]), api.ErrType)
		return Item(parts[0])
	case api.NoList:
		return List(parts)
	case api.NoUnary:
		return Unary(n.Text, parts[0])
	}
	return Binary(n.Text, parts[0], parts[1])
}

func (c *checker) builtIn(n api.Node, arguments []api.Type) (api.Type, api.Errno) {
	function, found := c.builtIns[n.Text]
	c.require(found, api.ErrName)
	if n.Text != "word" {
		return function.call(0, arguments)
	}
	c.require(len(n.Kids) > 0 && n.Kids[0].Kind == api.NoNumber, api.ErrType)
	return function.call(int(n.Kids[0].Num), arguments[1:])
}

// call visits the items and the expression of a procedure, where the caller's variables are not visible.
func (c *checker) call(p procedure, arguments []api.Type) api.Type {
	parameters := parametersOf(p.def)
	c.require(len(arguments) == len(parameters), api.ErrType)
	caller := c.scope
	c.scope = newScope(p.before)
	c.calls++
	for i, parameter := range parameters {
		c.require(alike(arguments[i], typeOf(parameter.Kids[0])), api.ErrType)
		c.declare(parameter.Text, variable{kind: arguments[i]})
	}
	c.open(p.def.Kids[len(parameters)])
	t := c.expr(p.def.Kids[len(parameters)+1])
	c.calls--
	c.scope = caller
	return t
}

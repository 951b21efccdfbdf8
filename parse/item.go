package parse

import "junto/api"

// itemsUntil parses items and the token with this text after them.
func (p *parser) itemsUntil(end string) []api.Node {
	var l []api.Node
	for !p.accept(end) {
		next := p.item()
		l = append(l, next)
	}
	return l
}

func (p *parser) item() api.Node {
	switch {
	case p.accept("in"):
		return p.in()
	case p.accept("let"):
		return p.let()
	case p.accept("if"):
		return p.branch()
	case p.accept("for"):
		return p.loop()
	case p.accept("out"):
		return p.out()
	case p.accept("def"):
		return p.procedure()
	}
	return p.assignment()
}

func (p *parser) in() api.Node {
	name, kind := p.declared()
	p.expect("from")
	party := p.number()
	p.expect(";")
	return api.Node{Kind: api.NoIn, Text: name, Num: party, Kids: []api.Node{kind}}
}

func (p *parser) let() api.Node {
	name := p.name()
	value := p.value()
	return api.Node{Kind: api.NoLet, Text: name, Kids: []api.Node{value}}
}

func (p *parser) assignment() api.Node {
	name := p.name()
	if !p.accept("[") {
		value := p.value()
		return api.Node{Kind: api.NoSet, Text: name, Kids: []api.Node{value}}
	}
	index := p.expr()
	p.expect("]")
	value := p.value()
	return api.Node{Kind: api.NoPut, Text: name, Kids: []api.Node{index, value}}
}

// value parses what a variable is set to, and the end of the item.
func (p *parser) value() api.Node {
	p.expect("=")
	value := p.expr()
	p.expect(";")
	return value
}

func (p *parser) branch() api.Node {
	condition := p.expr()
	first := p.block()
	second := api.Node{Kind: api.NoBlock}
	if p.accept("else") {
		second = p.block()
	}
	return api.Node{Kind: api.NoIf, Kids: []api.Node{condition, first, second}}
}

func (p *parser) loop() api.Node {
	name := p.name()
	p.expect("=")
	first := p.expr()
	p.expect("to")
	last := p.expr()
	block := p.block()
	return api.Node{Kind: api.NoFor, Text: name, Kids: []api.Node{first, last, block}}
}

func (p *parser) out() api.Node {
	kids := []api.Node{p.expr()}
	p.expect("to")
	if !p.accept("all") {
		recipients := p.list(p.recipient)
		kids = append(kids, recipients...)
	}
	p.expect(";")
	return api.Node{Kind: api.NoOut, Kids: kids}
}

func (p *parser) recipient() api.Node {
	return api.Node{Kind: api.NoTo, Num: p.number()}
}

func (p *parser) procedure() api.Node {
	name := p.name()
	kids := p.bracketed(p.parameter)
	p.expect("{")
	block := api.Node{Kind: api.NoBlock, Kids: p.itemsUntil("return")}
	result := p.expr()
	p.expect(";")
	p.expect("}")
	return api.Node{Kind: api.NoDef, Text: name, Kids: append(kids, block, result)}
}

func (p *parser) parameter() api.Node {
	name, kind := p.declared()
	return api.Node{Kind: api.NoArg, Text: name, Kids: []api.Node{kind}}
}

func (p *parser) block() api.Node {
	p.expect("{")
	return api.Node{Kind: api.NoBlock, Kids: p.itemsUntil("}")}
}

// declared parses a name and its type.
func (p *parser) declared() (string, api.Node) {
	name := p.name()
	p.expect(":")
	kind := p.kind()
	return name, kind
}

// kind parses a type.
func (p *parser) kind() api.Node {
	kind, bits, items := uint64(api.TyNum), uint64(0), uint64(0)
	switch {
	case p.accept("num"):
	case p.accept("bit"):
		kind = api.TyBit
	default:
		p.expect("word")
		kind = api.TyWord
		bits = p.number()
	}
	if p.accept("[") {
		items = p.number()
		p.expect("]")
	}
	kids := []api.Node{{Kind: api.NoNumber, Num: bits}, {Kind: api.NoNumber, Num: items}}
	return api.Node{Kind: api.NoType, Num: kind, Kids: kids}
}

package parse

import (
	"junto/api"
	"junto/token"
)

// unlimited is a number of operators that no string exceeds.
const unlimited = api.MaxSource

func (p *parser) expr() api.Node {
	return p.level(unlimited, p.xors, "|")
}

func (p *parser) xors() api.Node {
	return p.level(unlimited, p.ands, "^")
}

func (p *parser) ands() api.Node {
	return p.level(unlimited, p.compared, "&")
}

func (p *parser) compared() api.Node {
	return p.level(1, p.sum, "==", "<")
}

func (p *parser) sum() api.Node {
	return p.level(unlimited, p.product, "+", "-")
}

func (p *parser) product() api.Node {
	return p.level(unlimited, p.unary, "*")
}

// level parses operands of the next level with operators between them, at most as many as are given.
func (p *parser) level(most int, operand func() api.Node, signs ...string) api.Node {
	left := operand()
operators:
	for range most {
		for _, sign := range signs {
			if p.accept(sign) {
				right := operand()
				left = api.Node{Kind: api.NoBinary, Text: sign, Kids: []api.Node{left, right}}
				continue operators
			}
		}
		break
	}
	return left
}

func (p *parser) unary() api.Node {
	sign := p.next()
	if !p.accept("!") && !p.accept("-") {
		return p.indexed()
	}
	operand := p.unary()
	return api.Node{Kind: api.NoUnary, Text: sign, Kids: []api.Node{operand}}
}

// indexed parses a primary and the indices after it.
func (p *parser) indexed() api.Node {
	n := p.primary()
	for p.accept("[") {
		index := p.expr()
		p.expect("]")
		n = api.Node{Kind: api.NoItem, Kids: []api.Node{n, index}}
	}
	return n
}

func (p *parser) primary() api.Node {
	switch {
	case p.accept("("):
		n := p.expr()
		p.expect(")")
		return n
	case p.accept("["):
		elements := p.list(p.expr)
		p.expect("]")
		return api.Node{Kind: api.NoList, Kids: elements}
	case isFunction(p.next()):
		return p.named()
	}
	return api.Node{Kind: api.NoNumber, Num: p.number()}
}

// named parses a variable or a call.
func (p *parser) named() api.Node {
	word := p.next()
	p.expect(word)
	// The functions with reserved names can only be called.
	if p.next() != "(" && !token.IsReserved(word) {
		return api.Node{Kind: api.NoName, Text: word}
	}
	return api.Node{Kind: api.NoCall, Text: word, Kids: p.bracketed(p.expr)}
}

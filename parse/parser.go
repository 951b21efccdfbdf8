package parse

import (
	"junto/api"
	"junto/token"
)

// parser holds the tokens that have not been parsed. The last of them is empty, stands at the end of the string, and
// is taken only at the end of a program, so that there is always a next token before.
//
// The methods parse what their names say and take its tokens, or panic with the type unexpected.
type parser struct {
	l []api.Token
}

// unexpected is the offset of a token that is not allowed at its position. As a panic it unwinds the parser.
type unexpected struct {
	at int
}

// tree returns the tree of the tokens of a string of this length, or ErrForm and the offset of the first token that is
// not allowed.
func tree(l []api.Token, length int) (n api.Node, at int, e api.Errno) {
	defer func() {
		if u, ok := recover().(unexpected); ok {
			at, e = u.at, api.ErrForm
		}
	}()
	p := parser{append(l, api.Token{At: length})}
	return api.Node{Kind: api.NoProgram, Kids: p.itemsUntil("")}, 0, api.OK
}

// next returns the text of the next token.
func (p *parser) next() string {
	return p.l[0].Text
}

// fail reports that the next token is not allowed.
func (p *parser) fail() {
	panic(unexpected{p.l[0].At})
}

// accept takes the next token if it has this text, and reports whether it has.
func (p *parser) accept(word string) bool {
	if p.next() != word {
		return false
	}
	p.l = p.l[1:]
	return true
}

// expect takes the next token, which must have this text.
func (p *parser) expect(word string) {
	if !p.accept(word) {
		p.fail()
	}
}

func (p *parser) name() string {
	word := p.next()
	if !isName(word) {
		p.fail()
	}
	p.expect(word)
	return word
}

func (p *parser) number() uint64 {
	word := p.next()
	n, e := token.Number(word)
	if e != api.OK {
		p.fail()
	}
	p.expect(word)
	return n
}

// list parses one or more elements with commas between them.
func (p *parser) list(element func() api.Node) []api.Node {
	l := []api.Node{element()}
	for p.accept(",") {
		next := element()
		l = append(l, next)
	}
	return l
}

// bracketed parses a list in parentheses, which may be empty.
func (p *parser) bracketed(element func() api.Node) []api.Node {
	p.expect("(")
	if p.accept(")") {
		return nil
	}
	l := p.list(element)
	p.expect(")")
	return l
}

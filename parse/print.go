package parse

import (
	"strings"

	"junto/api"
	"junto/token"
)

// printer contains the lines that have been printed, and how many blocks are open.
type printer struct {
	strings.Builder
	open int
}

// line prints a line in the open blocks.
func (p *printer) line(parts ...string) {
	for range p.open {
		p.WriteString("  ")
	}
	for _, s := range parts {
		p.WriteString(s)
	}
	p.WriteByte('\n')
}

func (p *printer) items(l []api.Node) {
	for _, n := range l {
		p.item(n)
	}
}

// block prints the items of a block, whose brackets stand on other lines.
func (p *printer) block(n api.Node) {
	p.open++
	p.items(n.Kids)
	p.open--
}

func (p *printer) item(n api.Node) {
	switch n.Kind {
	case api.NoIn:
		p.line("in ", declarationText(n), " from ", token.Digits(n.Num), ";")
	case api.NoLet:
		p.line("let ", n.Text, " = ", exprText(n.Kids[0]), ";")
	case api.NoSet:
		p.line(n.Text, " = ", exprText(n.Kids[0]), ";")
	case api.NoPut:
		p.line(n.Text, "[", exprText(n.Kids[0]), "] = ", exprText(n.Kids[1]), ";")
	case api.NoIf:
		p.branch(n)
	case api.NoFor:
		p.line("for ", n.Text, " = ", exprText(n.Kids[0]), " to ", exprText(n.Kids[1]), " {")
		p.block(n.Kids[2])
		p.line("}")
	case api.NoOut:
		p.line("out ", exprText(n.Kids[0]), " to ", recipientsText(n.Kids[1:]), ";")
	case api.NoDef:
		p.procedure(n)
	}
}

func (p *printer) branch(n api.Node) {
	p.line("if ", exprText(n.Kids[0]), " {")
	p.block(n.Kids[1])
	if second := n.Kids[2]; len(second.Kids) > 0 {
		p.line("} else {")
		p.block(second)
	}
	p.line("}")
}

func (p *printer) procedure(n api.Node) {
	parameters := len(n.Kids) - 2
	p.line("def ", n.Text, "(", joined(n.Kids[:parameters], declarationText), ") {")
	p.open++
	p.items(n.Kids[parameters].Kids)
	p.line("return ", exprText(n.Kids[parameters+1]), ";")
	p.open--
	p.line("}")
}

// declarationText returns the name of an input or parameter and its type.
func declarationText(n api.Node) string {
	return n.Text + ": " + typeText(n.Kids[0])
}

// typeText returns a type.
func typeText(n api.Node) string {
	items := ""
	if n.Kids[1].Num > 0 {
		items = "[" + token.Digits(n.Kids[1].Num) + "]"
	}
	switch n.Num {
	case api.TyNum:
		return "num" + items
	case api.TyBit:
		return "bit" + items
	}
	return "word " + token.Digits(n.Kids[0].Num) + items
}

func recipientsText(l []api.Node) string {
	if len(l) == 0 {
		return "all"
	}
	return joined(l, func(n api.Node) string { return token.Digits(n.Num) })
}

func exprText(n api.Node) string {
	switch n.Kind {
	case api.NoNumber:
		return token.Digits(n.Num)
	case api.NoCall:
		return n.Text + "(" + joined(n.Kids, exprText) + ")"
	case api.NoItem:
		return indexedText(n.Kids[0]) + "[" + exprText(n.Kids[1]) + "]"
	case api.NoList:
		return "[" + joined(n.Kids, exprText) + "]"
	case api.NoUnary:
		return n.Text + exprText(n.Kids[0])
	case api.NoBinary:
		return "(" + exprText(n.Kids[0]) + " " + n.Text + " " + exprText(n.Kids[1]) + ")"
	}
	return n.Text
}

// indexedText returns an expression that an index follows.
func indexedText(n api.Node) string {
	if n.Kind == api.NoUnary {
		return "(" + exprText(n) + ")"
	}
	return exprText(n)
}

// joined returns the texts of nodes with commas between them.
func joined(l []api.Node, text func(n api.Node) string) string {
	texts := make([]string, len(l))
	for i, n := range l {
		texts[i] = text(n)
	}
	return strings.Join(texts, ", ")
}

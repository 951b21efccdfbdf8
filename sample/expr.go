package sample

import (
	"strconv"
	"strings"

	"junto/api"
)

// index returns an expression that is almost always 0 or 1.
func (m *Maker) index() string {
	switch m.intn(12) {
	case 0:
		return m.expr(num(), 1)
	case 1, 2, 3:
		return "num(bit(" + m.expr(num(), 1) + "))"
	}
	return strconv.Itoa(m.intn(2))
}

// expr returns an expression of a type, which is public unless the type is secret.
func (m *Maker) expr(t api.Type, deep int) string {
	if m.errs() {
		t = with(m.shape(), m.maybe())
	}
	if m.intn(2) == 0 {
		for range 20 {
			if text, found := m.variable(t); found {
				return text
			}
		}
	}
	if deep == 0 {
		return m.constant(t)
	}
	if m.intn(3) == 0 {
		if text, found := m.call(t, deep-1); found {
			return text
		}
	}
	switch m.intn(8) {
	case 0:
		return m.constant(t)
	case 1:
		return "mux(" + m.expr(with(bit(), t), deep-1) + ", " + m.expr(t, deep-1) + ", " + m.expr(t, deep-1) + ")"
	case 2:
		if t.Secret {
			return "secret(" + m.expr(t, deep-1) + ")"
		}
	}
	if t.Items > 0 {
		return m.arrayExpr(t, deep-1)
	}
	return m.plainExpr(t, deep-1)
}

// variable returns a variable of a type, if a random one has it.
func (m *Maker) variable(t api.Type) (string, bool) {
	if len(m.variables) == 0 {
		return "", false
	}
	v := pick(m, m.variables...)
	switch {
	case v.t.Secret && !t.Secret && !m.leaks():
		return "", false
	case public(v.t) == public(t):
		return v.name, true
	case public(v.t) == array(public(t), 2):
		return v.name + "[" + strconv.Itoa(m.intn(2)) + "]", true
	}
	return "", false
}

// constant returns an expression without variables.
func (m *Maker) constant(t api.Type) string {
	if t.Items > 0 {
		return "[" + m.constant(array(t, 0)) + ", " + m.constant(array(t, 0)) + "]"
	}
	number := strconv.Itoa(m.intn(4))
	switch t.Kind {
	case api.TyBit:
		return "bit(" + number + ")"
	case api.TyWord:
		return "word(" + strconv.Itoa(t.Bits) + ", " + number + ")"
	}
	return number
}

// call returns a call of a procedure that returns a type, if there is one.
func (m *Maker) call(t api.Type, deep int) (string, bool) {
	var found []signature
	for _, p := range m.procedures {
		if public(p.result) == public(t) && (t.Secret || !p.result.Secret || m.leaks()) || m.errs() {
			found = append(found, p)
		}
	}
	if len(found) == 0 {
		return "", false
	}
	p := pick(m, found...)
	var l []string
	for _, arg := range p.args {
		text := m.expr(arg, deep)
		if arg.Secret && !m.leaks() {
			text = "secret(" + text + ")"
		}
		l = append(l, text)
	}
	if m.errs() {
		l = append(l, "1")
	}
	return p.name + "(" + strings.Join(l, ", ") + ")", true
}

func (m *Maker) arrayExpr(t api.Type, deep int) string {
	if t.Kind == api.TyWord && m.intn(2) == 0 {
		return "sort(" + m.expr(t, deep) + ")"
	}
	return "[" + m.expr(array(t, 0), deep) + ", " + m.expr(array(t, 0), deep) + "]"
}

func (m *Maker) plainExpr(t api.Type, deep int) string {
	switch {
	case m.intn(5) == 0:
		return m.expr(array(t, 2), deep) + "[" + m.index() + "]"
	case t.Kind == api.TyNum:
		return m.numExpr(t, deep)
	case t.Kind == api.TyBit:
		return m.bitExpr(t, deep)
	case m.intn(4) == 0:
		return "!" + m.expr(t, deep)
	case m.intn(3) == 0:
		return "word(" + strconv.Itoa(t.Bits) + ", " + m.expr(with(pick(m, bit(), m.word(0), m.word(1)), t), deep) + ")"
	}
	return m.pair(t, deep, "+", "-", "*", "&", "|", "^")
}

func (m *Maker) numExpr(t api.Type, deep int) string {
	switch m.intn(5) {
	case 0:
		return "-" + m.expr(t, deep)
	case 1:
		return "num(" + m.expr(with(pick(m, num(), bit(), m.word(0), m.word(1)), t), deep) + ")"
	case 2:
		return "len(" + m.expr(with(pick(m, m.word(0), array(num(), 2)), secret()), deep) + ")"
	}
	return m.pair(t, deep, "+", "-", "*")
}

func (m *Maker) bitExpr(t api.Type, deep int) string {
	switch m.intn(6) {
	case 0:
		return "!" + m.expr(t, deep)
	case 1:
		return "bit(" + m.expr(pick(m, num(), with(bit(), t)), deep) + ")"
	case 2:
		return m.expr(with(m.word(0), t), deep) + "[" + m.index() + "]"
	case 3:
		return m.pair(pick(m, num(), with(m.word(1), t), with(bit(), t)), deep, "==")
	case 4:
		return m.pair(pick(m, num(), with(m.word(0), t)), deep, "<")
	}
	return m.pair(t, deep, "&", "|", "^")
}

func (m *Maker) pair(t api.Type, deep int, signs ...string) string {
	return "(" + m.expr(t, deep) + " " + pick(m, signs...) + " " + m.expr(t, deep) + ")"
}

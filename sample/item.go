package sample

import (
	"strconv"
	"strings"
)

func (m *Maker) items(n, deep int) string {
	text := ""
	for range n {
		text += m.item(deep)
	}
	return text
}

// enclosed returns items in a scope of their own.
func (m *Maker) enclosed(deep int) string {
	before := len(m.variables)
	m.blocks++
	text := "{ " + m.items(m.intn(4), deep) + "} "
	m.blocks--
	m.variables = m.variables[:before]
	return text
}

func (m *Maker) item(deep int) string {
	kind := m.intn(12)
	if deep == 0 {
		kind = m.intn(7)
	}
	switch {
	case kind < 2:
		return m.let()
	case kind < 5:
		return m.assign()
	case kind == 5 && (!m.inside && !m.private || m.leaks()):
		return m.out()
	case kind == 6 && (m.blocks == 0 || m.errs()):
		return m.In()
	case kind < 9 && deep > 0:
		return m.choice(deep)
	case kind == 9:
		return m.loop(deep)
	case kind > 9 && (m.blocks == 0 || m.errs()):
		return m.def(deep)
	}
	return m.let()
}

// In returns an input whose variable is visible in what is made later.
func (m *Maker) In() string {
	name := m.name()
	kind, t := m.spelled()
	m.variables = append(m.variables, known{name: name, t: with(t, secret())})
	party := strconv.Itoa(1 + m.intn(5))
	if m.errs() {
		party = pick(m, "0", "6", "4294967295")
	}
	return "in " + name + ": " + kind + " from " + party + "; "
}

func (m *Maker) let() string {
	t := m.shape()
	t.Secret = m.private || m.intn(2) == 0
	value := m.expr(t, 3)
	if t.Secret && !m.private && !m.leaks() {
		value = "secret(" + value + ")"
	}
	name := m.name()
	m.variables = append(m.variables, known{name: name, t: t})
	return "let " + name + " = " + value + "; "
}

func (m *Maker) assign() string {
	var l []known
	for _, v := range m.variables {
		if !v.loop && (v.t.Secret || !m.private || m.leaks()) || m.errs() {
			l = append(l, v)
		}
	}
	if len(l) == 0 {
		return m.let()
	}
	v := pick(m, l...)
	if m.errs() {
		v.name = m.name()
	}
	if v.t.Items > 0 && m.intn(2) == 0 {
		return v.name + "[" + m.index() + "] = " + m.expr(array(v.t, 0), 3) + "; "
	}
	return v.name + " = " + m.expr(v.t, 3) + "; "
}

func (m *Maker) choice(deep int) string {
	t := with(bit(), m.maybe())
	condition := m.expr(t, 2)
	if t.Secret {
		condition = "secret(" + condition + ")"
	}
	before := m.private
	m.private = before || t.Secret
	text := "if " + condition + " " + m.enclosed(deep-1)
	if m.intn(2) == 0 {
		text += "else " + m.enclosed(deep-1)
	}
	m.private = before
	return text
}

func (m *Maker) loop(deep int) string {
	first, last := m.index(), m.index()
	name := m.name()
	before := len(m.variables)
	m.variables = append(m.variables, known{name, num(), true})
	text := "for " + name + " = " + first + " to " + last + " " + m.enclosed(max(deep-1, 0))
	m.variables = m.variables[:before]
	return text
}

func (m *Maker) out() string {
	t := m.shape()
	t.Secret = true
	to := "all"
	if m.intn(2) == 0 {
		to = pick(m, "1", "5", "2, 3", "1, 4, 5")
	}
	if m.errs() {
		to = pick(m, "0", "6", "3, 3", "2, 1", "0, 1", "1, 6")
	}
	return "out " + m.expr(t, 3) + " to " + to + "; "
}

// def declares a procedure, in which a parameter is treated as secret if it will be secret in all calls.
func (m *Maker) def(deep int) string {
	p := signature{name: m.name(), result: with(m.shape(), m.maybe())}
	outer := m.variables
	m.variables = []known{{name: p.name, loop: true}}
	var l []string
	for range m.intn(4) {
		name := m.name()
		kind, t := m.spelled()
		t.Secret = m.intn(2) == 0
		m.variables = append(m.variables, known{name: name, t: t})
		p.args = append(p.args, t)
		l = append(l, name+": "+kind)
	}
	m.inside = true
	m.blocks++
	text := "def " + p.name + "(" + strings.Join(l, ", ") + ") { " + m.items(m.intn(4), max(deep-1, 0))
	text += "return " + m.expr(p.result, 2) + "; } "
	m.blocks--
	m.inside = false
	m.variables = outer
	m.procedures = append(m.procedures, p)
	return text
}

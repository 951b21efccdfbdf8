package check_test

import (
	"math/rand"
	"slices"
	"strings"

	"junto/api"
)

// maker makes the texts of random programs, most of which are almost accepted: a choice that need not be allowed is
// made once in so many times, and one that may reveal a secret as often or more often.
type maker struct {
	*rand.Rand
	careless   int
	leaky      int
	variables  []known
	procedures []signature
	blocks     int
	inside     bool // in a procedure
	private    bool // in an if with a secret condition
}

type known struct {
	name string
	t    api.Type
	loop bool
}

type signature struct {
	name   string
	result api.Type
	args   []api.Type
}

func newMaker(seed int64, careless int) *maker {
	return &maker{Rand: rand.New(rand.NewSource(seed)), careless: careless, leaky: careless}
}

func pick[T any](m *maker, l ...T) T {
	return l[m.Intn(len(l))]
}

// errs reports whether the next choice need not be allowed.
func (m *maker) errs() bool {
	return m.Intn(m.careless) == 0
}

// leaks reports whether the next choice may reveal a secret.
func (m *maker) leaks() bool {
	return m.Intn(m.leaky) == 0
}

func (m *maker) program() string {
	text := ""
	if m.Intn(4) > 0 {
		text = m.in() + m.in()
	}
	return text + m.items(3+m.Intn(10), 3)
}

func (m *maker) name() string {
	name := string(rune('a' + m.Intn(14)))
	for !m.errs() && (slices.ContainsFunc(m.variables, func(v known) bool { return v.name == name }) || slices.ContainsFunc(m.procedures, func(p signature) bool { return p.name == name })) {
		name = string(rune('a'+m.Intn(26))) + pick(m, "", "1", "2")
	}
	if m.errs() {
		return pick(m, "mux", "sort", "secret", "len")
	}
	return name
}

// shape returns a public type.
func (m *maker) shape() api.Type {
	t := pick(m, num, num, bit, bit, word(2), word(3))
	if m.Intn(4) == 0 {
		t.Items = 2
	}
	return t
}

func (m *maker) spelled() (string, api.Type) {
	t := m.shape()
	if m.errs() {
		t = pick(m, word(0), word(17), array(num, 33))
	}
	return spell(t), t
}

func (m *maker) items(n, deep int) string {
	text := ""
	for range n {
		text += m.item(deep)
	}
	return text
}

// enclosed returns items in a scope of their own.
func (m *maker) enclosed(deep int) string {
	before := len(m.variables)
	m.blocks++
	text := "{ " + m.items(m.Intn(4), deep) + "} "
	m.blocks--
	m.variables = m.variables[:before]
	return text
}

func (m *maker) item(deep int) string {
	kind := m.Intn(12)
	if deep == 0 {
		kind = m.Intn(7)
	}
	switch {
	case kind < 2:
		return m.let()
	case kind < 5:
		return m.assign()
	case kind == 5 && (!m.inside && !m.private || m.leaks()):
		return m.out()
	case kind == 6 && (m.blocks == 0 || m.errs()):
		return m.in()
	case kind < 9 && deep > 0:
		return m.choice(deep)
	case kind == 9:
		return m.loop(deep)
	case kind > 9 && (m.blocks == 0 || m.errs()):
		return m.def(deep)
	}
	return m.let()
}

func (m *maker) in() string {
	name := m.name()
	kind, t := m.spelled()
	m.variables = append(m.variables, known{name: name, t: secret(t)})
	party := decimal(1 + m.Intn(5))
	if m.errs() {
		party = pick(m, "0", "6", "4294967295")
	}
	return "in " + name + ": " + kind + " from " + party + "; "
}

func (m *maker) let() string {
	t := m.shape()
	t.Secret = m.private || m.Intn(2) == 0
	value := m.expr(t, 3)
	if t.Secret && !m.private && !m.leaks() {
		value = "secret(" + value + ")"
	}
	name := m.name()
	m.variables = append(m.variables, known{name: name, t: t})
	return "let " + name + " = " + value + "; "
}

func (m *maker) assign() string {
	var l []known
	for _, v := range m.variables {
		if !v.loop && (v.t.Secret || !m.private || m.leaks()) || m.errs() {
			l = append(l, v)
		}
	}
	if len(l) == 0 {
		return m.let()
	}
	v := pick(m, l...)
	if m.errs() {
		v.name = m.name()
	}
	if v.t.Items > 0 && m.Intn(2) == 0 {
		return v.name + "[" + m.index() + "] = " + m.expr(array(v.t, 0), 3) + "; "
	}
	return v.name + " = " + m.expr(v.t, 3) + "; "
}

func (m *maker) index() string {
	if m.Intn(3) == 0 {
		return m.expr(num, 1)
	}
	return decimal(m.Intn(2))
}

func (m *maker) choice(deep int) string {
	t := with(bit, api.Type{Secret: m.Intn(2) == 0})
	condition := m.expr(t, 2)
	if t.Secret {
		condition = "secret(" + condition + ")"
	}
	before := m.private
	m.private = before || t.Secret
	text := "if " + condition + " " + m.enclosed(deep-1)
	if m.Intn(2) == 0 {
		text += "else " + m.enclosed(deep-1)
	}
	m.private = before
	return text
}

func (m *maker) loop(deep int) string {
	first, last := m.index(), m.index()
	name := m.name()
	before := len(m.variables)
	m.variables = append(m.variables, known{name, num, true})
	text := "for " + name + " = " + first + " to " + last + " " + m.enclosed(max(deep-1, 0))
	m.variables = m.variables[:before]
	return text
}

func (m *maker) out() string {
	t := m.shape()
	t.Secret = true
	to := "all"
	if m.Intn(2) == 0 {
		to = pick(m, "1", "5", "2, 3", "1, 4, 5")
	}
	if m.errs() {
		to = pick(m, "0", "6", "3, 3", "2, 1", "0, 1", "1, 6")
	}
	return "out " + m.expr(t, 3) + " to " + to + "; "
}

// def declares a procedure, in which a parameter is treated as secret if it will be secret in all calls.
func (m *maker) def(deep int) string {
	p := signature{name: m.name(), result: with(m.shape(), api.Type{Secret: m.Intn(2) == 0})}
	outer := m.variables
	m.variables = []known{{name: p.name, loop: true}}
	var l []string
	for range m.Intn(4) {
		name := m.name()
		kind, t := m.spelled()
		t.Secret = m.Intn(2) == 0
		m.variables = append(m.variables, known{name: name, t: t})
		p.args = append(p.args, t)
		l = append(l, name+": "+kind)
	}
	m.inside = true
	m.blocks++
	text := "def " + p.name + "(" + strings.Join(l, ", ") + ") { " + m.items(m.Intn(4), max(deep-1, 0))
	text += "return " + m.expr(p.result, 2) + "; } "
	m.blocks--
	m.inside = false
	m.variables = outer
	m.procedures = append(m.procedures, p)
	return text
}

// expr returns an expression of a type, which is public unless the type is secret.
func (m *maker) expr(t api.Type, deep int) string {
	if m.errs() {
		t = with(m.shape(), api.Type{Secret: m.Intn(2) == 0})
	}
	if m.Intn(2) == 0 {
		for range 20 {
			if text, found := m.variable(t); found {
				return text
			}
		}
	}
	if deep == 0 {
		return m.constant(t)
	}
	if m.Intn(3) == 0 {
		if text, found := m.call(t, deep-1); found {
			return text
		}
	}
	switch m.Intn(8) {
	case 0:
		return m.constant(t)
	case 1:
		return "mux(" + m.expr(with(bit, t), deep-1) + ", " + m.expr(t, deep-1) + ", " + m.expr(t, deep-1) + ")"
	case 2:
		if t.Secret {
			return "secret(" + m.expr(t, deep-1) + ")"
		}
	}
	if t.Items > 0 {
		return m.arrayExpr(t, deep-1)
	}
	return m.plainExpr(t, deep-1)
}

// variable returns a variable of a type, if a random one has it.
func (m *maker) variable(t api.Type) (string, bool) {
	if len(m.variables) == 0 {
		return "", false
	}
	v := pick(m, m.variables...)
	switch {
	case v.t.Secret && !t.Secret && !m.leaks():
		return "", false
	case public(v.t) == public(t):
		return v.name, true
	case public(v.t) == array(public(t), 2):
		return v.name + "[" + decimal(m.Intn(2)) + "]", true
	}
	return "", false
}

// constant returns an expression without variables.
func (m *maker) constant(t api.Type) string {
	if t.Items > 0 {
		return "[" + m.constant(array(t, 0)) + ", " + m.constant(array(t, 0)) + "]"
	}
	number := decimal(m.Intn(4))
	switch t.Kind {
	case api.TyBit:
		return "bit(" + number + ")"
	case api.TyWord:
		return "word(" + decimal(t.Bits) + ", " + number + ")"
	}
	return number
}

// call returns a call of a procedure that returns a type, if there is one.
func (m *maker) call(t api.Type, deep int) (string, bool) {
	var found []signature
	for _, p := range m.procedures {
		if public(p.result) == public(t) && (t.Secret || !p.result.Secret || m.leaks()) || m.errs() {
			found = append(found, p)
		}
	}
	if len(found) == 0 {
		return "", false
	}
	p := pick(m, found...)
	var l []string
	for _, arg := range p.args {
		text := m.expr(arg, deep)
		if arg.Secret && !m.leaks() {
			text = "secret(" + text + ")"
		}
		l = append(l, text)
	}
	if m.errs() {
		l = append(l, "1")
	}
	return p.name + "(" + strings.Join(l, ", ") + ")", true
}

func (m *maker) arrayExpr(t api.Type, deep int) string {
	if t.Kind == api.TyWord && m.Intn(2) == 0 {
		return "sort(" + m.expr(t, deep) + ")"
	}
	return "[" + m.expr(array(t, 0), deep) + ", " + m.expr(array(t, 0), deep) + "]"
}

func (m *maker) plainExpr(t api.Type, deep int) string {
	switch {
	case m.Intn(5) == 0:
		return m.expr(array(t, 2), deep) + "[" + m.index() + "]"
	case t.Kind == api.TyNum:
		return m.numExpr(t, deep)
	case t.Kind == api.TyBit:
		return m.bitExpr(t, deep)
	case m.Intn(4) == 0:
		return "!" + m.expr(t, deep)
	case m.Intn(3) == 0:
		return "word(" + decimal(t.Bits) + ", " + m.expr(with(pick(m, bit, word(2), word(3)), t), deep) + ")"
	}
	return m.pair(t, deep, "+", "-", "*", "&", "|", "^")
}

func (m *maker) numExpr(t api.Type, deep int) string {
	switch m.Intn(5) {
	case 0:
		return "-" + m.expr(t, deep)
	case 1:
		return "num(" + m.expr(with(pick(m, num, bit, word(2), word(3)), t), deep) + ")"
	case 2:
		return "len(" + m.expr(with(pick(m, word(2), array(num, 2)), api.Type{Secret: true}), deep) + ")"
	}
	return m.pair(t, deep, "+", "-", "*")
}

func (m *maker) bitExpr(t api.Type, deep int) string {
	switch m.Intn(6) {
	case 0:
		return "!" + m.expr(t, deep)
	case 1:
		return "bit(" + m.expr(pick(m, num, with(bit, t)), deep) + ")"
	case 2:
		return m.expr(with(word(2), t), deep) + "[" + m.index() + "]"
	case 3:
		return m.pair(pick(m, num, with(word(3), t), with(bit, t)), deep, "==")
	case 4:
		return m.pair(pick(m, num, with(word(2), t)), deep, "<")
	}
	return m.pair(t, deep, "&", "|", "^")
}

func (m *maker) pair(t api.Type, deep int, signs ...string) string {
	return "(" + m.expr(t, deep) + " " + pick(m, signs...) + " " + m.expr(t, deep) + ")"
}

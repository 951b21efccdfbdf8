// Package sample makes the texts of random programs for the tests of other packages.
package sample

import (
	"slices"
	"strconv"

	"junto/api"
)

// Maker makes the texts of programs, most of which are almost accepted. All arrays have two elements.
type Maker struct {
	Careless int    // a choice that need not be allowed is made once in so many times
	Leaky    int    // and one that may reveal a secret once in so many times
	Widths   [2]int // the numbers of bits of words

	intn       func(n int) int
	variables  []known
	procedures []signature
	blocks     int
	inside     bool // in a procedure
	private    bool // in an if with a secret condition
}

type known struct {
	name string
	t    api.Type
	loop bool
}

type signature struct {
	name   string
	result api.Type
	args   []api.Type
}

// New returns a maker that chooses with a function, which returns a number from 0 to n - 1.
func New(intn func(n int) int, careless int) *Maker {
	return &Maker{Careless: careless, Leaky: careless, Widths: [2]int{2, 3}, intn: intn}
}

// Program returns a program for five parties.
func (m *Maker) Program() string {
	text := ""
	if m.intn(4) > 0 {
		first := m.In()
		text = first + m.In()
	}
	return text + m.items(3+m.intn(10), 3)
}

func pick[T any](m *Maker, l ...T) T {
	return l[m.intn(len(l))]
}

// errs reports whether the next choice need not be allowed.
func (m *Maker) errs() bool {
	return m.intn(m.Careless) == 0
}

// leaks reports whether the next choice may reveal a secret.
func (m *Maker) leaks() bool {
	return m.intn(m.Leaky) == 0
}

func (m *Maker) name() string {
	name := string(rune('a' + m.intn(14)))
	for !m.errs() && m.isTaken(name) {
		name = string(rune('a'+m.intn(26))) + pick(m, "", "1", "2")
	}
	if m.errs() {
		return pick(m, "mux", "sort", "secret", "len")
	}
	return name
}

func (m *Maker) isTaken(name string) bool {
	return slices.ContainsFunc(m.variables, func(v known) bool { return v.name == name }) ||
		slices.ContainsFunc(m.procedures, func(p signature) bool { return p.name == name })
}

// shape returns a public type.
func (m *Maker) shape() api.Type {
	t := pick(m, num(), num(), bit(), bit(), m.word(0), m.word(1))
	if m.intn(4) == 0 {
		t.Items = 2
	}
	return t
}

// spelled returns the text of a type and the type.
func (m *Maker) spelled() (string, api.Type) {
	t := m.shape()
	if m.errs() {
		t = pick(m, api.Type{Kind: api.TyWord}, api.Type{Kind: api.TyWord, Bits: 17}, array(num(), 33))
	}
	return spell(t), t
}

func spell(t api.Type) string {
	text := "num"
	switch t.Kind {
	case api.TyBit:
		text = "bit"
	case api.TyWord:
		text = "word " + strconv.Itoa(t.Bits)
	}
	if t.Items > 0 {
		text += "[" + strconv.Itoa(t.Items) + "]"
	}
	return text
}

func num() api.Type {
	return api.Type{Kind: api.TyNum}
}

func bit() api.Type {
	return api.Type{Kind: api.TyBit}
}

// word returns one of the types of words.
func (m *Maker) word(i int) api.Type {
	return api.Type{Kind: api.TyWord, Bits: m.Widths[i]}
}

func array(t api.Type, items int) api.Type {
	t.Items = items
	return t
}

func public(t api.Type) api.Type {
	t.Secret = false
	return t
}

func secret() api.Type {
	return api.Type{Secret: true}
}

// maybe returns what is secret once in two times.
func (m *Maker) maybe() api.Type {
	return api.Type{Secret: m.intn(2) == 0}
}

// with returns a type that is secret if the other one is.
func with(t, other api.Type) api.Type {
	t.Secret = t.Secret || other.Secret
	return t
}

// Package execute executes programs with values of any kind, so that layers can compute with numbers or with something
// that stands for them. See shared/doc/11-mean.md.
package execute

import "junto/api"

// maxOuts is the largest number of outputs that a program makes.
const maxOuts = 1 << 12

// Values computes with values that are no arrays. A type is that of the operands, except for Secret, which means nothing
// here.
type Values[V any] interface {
	// Number returns the value of a number literal.
	Number(n uint64) V
	// Known returns the number that a public num or bit is.
	Known(x V) uint64
	// In reads a value from the next slots.
	In(t api.Type) V
	// Out outputs a value of any type, which is given by its elements.
	Out(to []int, t api.Type, l []V)
	Unary(sign string, t api.Type, x V) V
	Binary(sign string, t api.Type, x, y V) V
	// Bit returns the bit of a word with the index i.
	Bit(x V, i int) V
	// Convert returns the result of num, bit or word.
	Convert(from, to api.Type, x V) V
	// Pick returns x if the bit c is 1, and otherwise y.
	Pick(c, x, y V) V
	// Sort returns words in increasing order.
	Sort(t api.Type, l []V) []V
}

// machine is the state of an execution.
//
// The methods execute or evaluate what their names say, or panic with the type fault.
type machine[V any] struct {
	values     Values[V]
	procedures map[string]api.Node
	scope      scope[V]
	hidden     bool // whether the node is in a block of an if with a secret condition
	nodes      int  // how many nodes have been visited
	outs       int  // how many outputs have been made
}

// value is a value of any type, with one element if it is no array. Its elements are never changed.
type value[V any] struct {
	kind  api.Type
	items []V
}

// fault is an error of the program. As a panic it unwinds the machine.
type fault struct {
	e api.Errno
}

// Program executes a program that check.Check accepts. It returns the number of visited nodes, ErrRange or ErrLimit.
func Program[V any](n api.Node, values Values[V]) (nodes int, e api.Errno) {
	defer func() {
		if f, ok := recover().(fault); ok {
			nodes, e = 0, f.e
		}
	}()
	m := &machine[V]{values: values, procedures: map[string]api.Node{}, scope: newScope[V]()}
	m.items(n.Kids)
	return m.nodes, api.OK
}

// require fails with the error unless the condition holds.
func (m *machine[V]) require(holds bool, e api.Errno) {
	if !holds {
		panic(fault{e})
	}
}

// visit counts a node.
func (m *machine[V]) visit() {
	m.nodes++
	m.require(m.nodes <= api.MaxWork, api.ErrLimit)
}

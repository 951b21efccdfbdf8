package sample

import (
	"slices"

	"junto/api"
)

// Change changes one node of a tree in any way, so that the tree need not be a program any more.
func (m *Maker) Change(n *api.Node) {
	node := pick(m, Nodes(n)...)
	switch m.intn(5) {
	case 0:
		node.Kind = m.intn(24) - 1
	case 1:
		node.Text = pick(m, "", "a", "b", "in", "num", "bit", "word", "mux", "len", "-", "!", "+", "==", "<", "A", "\xff")
	case 2:
		node.Num = pick(m, uint64(0), 1, 2, 3, 4, 16, 17, 33, 1<<32-1, 1<<32, 1<<64-1)
	case 3:
		kid := Copy(*pick(m, Nodes(n)...))
		node.Kids = append(slices.Clone(node.Kids), kid)
	case 4:
		node.Kids = node.Kids[:m.intn(len(node.Kids)+1)]
	}
}

// Nodes returns all nodes of a tree.
func Nodes(n *api.Node) []*api.Node {
	l := []*api.Node{n}
	for i := range n.Kids {
		l = append(l, Nodes(&n.Kids[i])...)
	}
	return l
}

// Copy returns an equal tree that shares nothing with n.
func Copy(n api.Node) api.Node {
	kids := make([]api.Node, len(n.Kids))
	for i, kid := range n.Kids {
		kids[i] = Copy(kid)
	}
	n.Kids = kids
	return n
}

package parse_test

import (
	"testing"

	"junto/api"
	"junto/parse"
)

// P9.3

// sized checks what Nodes and Deep return.
func sized(t *testing.T, n api.Node, nodes, deep int) {
	t.Helper()
	if parse.Nodes(n) != nodes || parse.Deep(n) != deep {
		t.Errorf("%d nodes, %d deep, not %d and %d", parse.Nodes(n), parse.Deep(n), nodes, deep)
	}
}

func TestNodes(t *testing.T) {
	sized(t, api.Node{}, 1, 1)
	sized(t, api.Node{Kids: []api.Node{}}, 1, 1)
	sized(t, programOf(), 1, 1)
	sized(t, a, 1, 1)
	sized(t, listOf(a, b, c), 4, 2)
	sized(t, unaryOf("-", a), 2, 2)
	sized(t, programOf(letOf("a", binaryOf(numberOf(1), "+", numberOf(2)))), 5, 4)
	sized(t, typeOf(api.TyNum, 0, 0), 3, 2)
	sized(t, ifOf(a, blockOf(), blockOf()), 4, 2)
	sized(t, outOf(a, 1, 2), 4, 2)
	// Every way to the deepest node.
	sized(t, listOf(listOf(listOf(a)), b, c), 6, 4)
	sized(t, listOf(b, listOf(listOf(a)), c), 6, 4)
	sized(t, listOf(b, c, listOf(listOf(a))), 6, 4)
	sized(t, listOf(listOf(a), listOf(listOf(a)), listOf(a)), 8, 4)
	// The tree need not be a program.
	sized(t, nodeOf(-1, "?", 1<<63, nodeOf(0, "", 0, nodeOf(99, "", 0)), nodeOf(99, "in", 0)), 4, 3)
	sized(t, deepSigns(1<<16), 1<<16, 1<<16)
	sized(t, wide(1<<18), 1<<18, 4)
}

// In random trees the nodes are as many as the places, and as deep as the deepest place.
func TestNodesOfPrograms(t *testing.T) {
	for i := range 500 {
		n := randomProgram(int64(i))
		sized(t, n, len(places(&n)), len(generations(n)))
	}
}

// generations returns the number of nodes at each distance from the root.
func generations(n api.Node) []int {
	var counts []int
	for level := []api.Node{n}; len(level) > 0; {
		counts = append(counts, len(level))
		var below []api.Node
		for _, m := range level {
			below = append(below, m.Kids...)
		}
		level = below
	}
	return counts
}

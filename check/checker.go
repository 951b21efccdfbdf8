package check

import (
	"junto/api"
	"junto/parse"
)

// checker is what is known when a node of a program is visited, and what has been found before.
//
// The methods visit what their names say, or panic with the type fault.
type checker struct {
	setup      api.Setup
	builtIns   map[string]builtIn
	procedures map[string]procedure
	scope      scope
	blocks     int  // how many blocks enclose the node, also by calls
	calls      int  // how many calls of procedures are under way
	hidden     bool // whether one of the blocks belongs to an if with a secret condition
	nodes      int  // how many nodes have been visited
	slots      []api.Slot
	outs       []api.Type
}

// procedure is a procedure of the program and how many there are before it, which are those that it may call.
type procedure struct {
	def    api.Node
	before int
}

// scope is what is visible in the program itself or in a call of a procedure.
type scope struct {
	variables  map[string]variable
	names      []string // of the variables, in the order of their declarations
	procedures int      // how many procedures of the program are visible, which are its first ones
}

type variable struct {
	kind   api.Type
	isLoop bool
}

// fault is an error of the program. As a panic it unwinds the checker.
type fault struct {
	e api.Errno
}

// visited returns a checker that has visited the whole program, or an error and one that knows nothing.
func visited(s api.Setup, n api.Node) (c *checker, e api.Errno) {
	if !isSetup(s) {
		return &checker{}, api.ErrArg
	}
	if e := parse.Check(n); e != api.OK {
		return &checker{}, e
	}
	defer func() {
		if f, ok := recover().(fault); ok {
			c, e = &checker{}, f.e
		}
	}()
	c = &checker{setup: s, builtIns: builtIns(), procedures: map[string]procedure{}, scope: newScope(0)}
	c.items(n.Kids)
	return c, api.OK
}

func newScope(procedures int) scope {
	return scope{variables: map[string]variable{}, procedures: procedures}
}

// require fails with the error unless the condition holds.
func (c *checker) require(holds bool, e api.Errno) {
	if !holds {
		panic(fault{e})
	}
}

// visit counts a node.
func (c *checker) visit() {
	c.nodes++
	c.require(c.nodes <= api.MaxWork, api.ErrLimit)
}

// procedure returns the procedure of the program with this name, and whether one is visible.
func (c *checker) procedure(name string) (procedure, bool) {
	p, found := c.procedures[name]
	return p, found && p.before < c.scope.procedures
}

// isFunction reports whether a procedure, of the program or built in, is visible under this name.
func (c *checker) isFunction(name string) bool {
	_, isProcedure := c.procedure(name)
	_, isBuiltIn := c.builtIns[name]
	return isProcedure || isBuiltIn
}

// requireNew fails if something is visible under this name.
func (c *checker) requireNew(name string) {
	_, isVariable := c.scope.variables[name]
	c.require(!isVariable && !c.isFunction(name), api.ErrTwice)
}

func (c *checker) declare(name string, v variable) {
	c.requireNew(name)
	c.scope.variables[name] = v
	c.scope.names = append(c.scope.names, name)
}

// forget removes all variables but the first ones from the scope.
func (c *checker) forget(first int) {
	for _, name := range c.scope.names[first:] {
		delete(c.scope.variables, name)
	}
	c.scope.names = c.scope.names[:first]
}

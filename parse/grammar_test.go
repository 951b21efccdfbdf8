package parse_test

import (
	"slices"
	"strings"

	"junto/api"
	"junto/token"
)

// grammar is the chapter's table without optional and repeated parts. Only program may be empty.
const grammar = `
program
program items
items item
items items item
item in NAME : type from NUMBER ;
item let NAME = expr ;
item NAME = expr ;
item NAME [ expr ] = expr ;
item if expr block
item if expr block else block
item for NAME = expr to expr block
item out expr to all ;
item out expr to numbers ;
item def NAME ( ) { body }
item def NAME ( args ) { body }
body return expr ;
body items return expr ;
numbers NUMBER
numbers numbers , NUMBER
block { }
block { items }
args arg
args args , arg
arg NAME : type
type kind
type kind [ NUMBER ]
kind num
kind bit
kind word NUMBER
expr xors
expr expr | xors
xors ands
xors xors ^ ands
ands compared
ands ands & compared
compared sum
compared sum == sum
compared sum < sum
sum product
sum sum + product
sum sum - product
product unary
product product * unary
unary ! unary
unary - unary
unary indexed
indexed primary
indexed indexed [ expr ]
primary NUMBER
primary NAME
primary called ( )
primary called ( exprs )
primary ( expr )
primary [ exprs ]
called NAME
called num
called bit
called word
exprs expr
exprs exprs , expr
`

// state is a rule, how many of its symbols have been recognized, and where the first of them starts.
type state struct {
	rule, done, from int
}

// recognizer is the reference for syntax errors: after each token it knows all rules that may be under way (Earley).
type recognizer struct {
	rules [][]string
	sets  [][]state
}

func newRecognizer() *recognizer {
	var r recognizer
	for _, line := range strings.Split(strings.TrimSpace(grammar), "\n") {
		r.rules = append(r.rules, strings.Fields(line))
	}
	var first []state
	for i, rule := range r.rules {
		if rule[0] == "program" {
			first = append(first, state{i, 0, 0})
		}
	}
	r.sets = [][]state{nil}
	r.close(first)
	return &r
}

// next returns the symbol that follows, or "" after the last one.
func (r *recognizer) next(s state) string {
	if rule := r.rules[s.rule]; s.done+1 < len(rule) {
		return rule[s.done+1]
	}
	return ""
}

// close makes the last set contain these states and all that follow from them.
func (r *recognizer) close(l []state) {
	last := len(r.sets) - 1
	found := map[state]bool{}
	add := func(s state) {
		if !found[s] {
			found[s] = true
			r.sets[last] = append(r.sets[last], s)
		}
	}
	for _, s := range l {
		add(s)
	}
	for i := 0; i < len(r.sets[last]); i++ {
		s := r.sets[last][i]
		symbol := r.next(s)
		if symbol == "" {
			for _, outer := range r.sets[s.from] {
				if r.next(outer) == r.rules[s.rule][0] {
					add(state{outer.rule, outer.done + 1, outer.from})
				}
			}
		}
		for k, rule := range r.rules {
			if rule[0] == symbol {
				add(state{k, 0, last})
			}
		}
	}
}

// take moves past a token and reports whether it is allowed.
func (r *recognizer) take(t api.Token) bool {
	var l []state
	for _, s := range r.sets[len(r.sets)-1] {
		if r.next(s) == symbolOf(t) {
			l = append(l, state{s.rule, s.done + 1, s.from})
		}
	}
	r.sets = append(r.sets, nil)
	r.close(l)
	return len(l) > 0
}

// back forgets the last token.
func (r *recognizer) back() {
	r.sets = r.sets[:len(r.sets)-1]
}

// isWhole reports whether the tokens so far are a program.
func (r *recognizer) isWhole() bool {
	return slices.ContainsFunc(r.sets[len(r.sets)-1], func(s state) bool {
		return r.rules[s.rule][0] == "program" && r.next(s) == ""
	})
}

func symbolOf(t api.Token) string {
	switch {
	case t.Kind == api.ToNumber:
		return "NUMBER"
	case t.Kind == api.ToName && !token.IsReserved(t.Text):
		return "NAME"
	}
	return t.Text
}

// judged is the reference for syntax errors in texts that token.Read accepts: where the error is, and whether there is
// one.
func judged(text string) (int, bool) {
	l, _, _ := token.Read(text)
	r := newRecognizer()
	for _, t := range l {
		if !r.take(t) {
			return t.At, true
		}
	}
	if r.isWhole() {
		return 0, false
	}
	return len(text), true
}

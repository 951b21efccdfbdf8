package parse_test

import (
	"math/rand"
	"strings"

	"junto/api"
)

// maker makes random trees. In each tree, all kinds of nodes are likely.
type maker struct {
	*rand.Rand
}

func randomProgram(seed int64) api.Node {
	m := maker{rand.New(rand.NewSource(seed))}
	return programOf(m.items(1+m.Intn(4), 3)...)
}

func (m maker) name() string {
	return pick(m.Rand, "a", "b", "x1", "y_", "mux", "sort", "len", "i", "into", "words", "abcdefghijklmnopqrstuvwx")
}

func (m maker) number() uint64 {
	return pick(m.Rand, 0, 1, 2, 7, 10, uint64(m.Uint32()), 1<<32-1)
}

func (m maker) items(most, deep int) []api.Node {
	var l []api.Node
	for range m.Intn(most + 1) {
		l = append(l, m.item(deep))
	}
	return l
}

func (m maker) item(deep int) api.Node {
	kind := m.Intn(9)
	if deep == 0 {
		kind = m.Intn(5)
	}
	switch kind {
	case 0:
		return inOf(m.name(), m.kind(), m.number())
	case 1:
		return letOf(m.name(), m.expr(4))
	case 2:
		return setOf(m.name(), m.expr(4))
	case 3:
		return putOf(m.name(), m.expr(3), m.expr(3))
	case 4:
		return outOf(m.expr(3), m.numbers()...)
	case 5:
		return forOf(m.name(), m.expr(2), m.expr(2), blockOf(m.items(2, deep-1)...))
	case 6:
		return defOf(m.name(), m.args(), blockOf(m.items(2, deep-1)...), m.expr(3))
	}
	return ifOf(m.expr(3), blockOf(m.items(2, deep-1)...), blockOf(m.items(2, deep-1)...))
}

func (m maker) numbers() []uint64 {
	var l []uint64
	for range m.Intn(4) {
		l = append(l, m.number())
	}
	return l
}

func (m maker) args() []api.Node {
	var l []api.Node
	for range m.Intn(3) {
		l = append(l, argOf(m.name(), m.kind()))
	}
	return l
}

func (m maker) kind() api.Node {
	items := uint64(0)
	if m.Intn(2) == 0 {
		items = m.number()
	}
	switch m.Intn(3) {
	case 0:
		return typeOf(api.TyNum, 0, items)
	case 1:
		return typeOf(api.TyBit, 0, items)
	}
	return typeOf(api.TyWord, m.number(), items)
}

func (m maker) exprs(least, deep int) []api.Node {
	var l []api.Node
	for range least + m.Intn(3) {
		l = append(l, m.expr(deep))
	}
	return l
}

func (m maker) expr(deep int) api.Node {
	kind := m.Intn(10)
	if deep == 0 {
		kind = m.Intn(2)
	}
	switch kind {
	case 0:
		return numberOf(m.number())
	case 1:
		return nameOf(m.name())
	case 2:
		return callOf(pick(m.Rand, m.name(), "num", "bit", "word"), m.exprs(0, deep-1)...)
	case 3:
		return itemOf(m.expr(deep-1), m.expr(deep-1))
	case 4:
		return listOf(m.exprs(1, deep-1)...)
	case 5, 6:
		return unaryOf(pick(m.Rand, "!", "-"), m.expr(deep-1))
	}
	return binaryOf(m.expr(deep-1), pick(m.Rand, "|", "^", "&", "==", "<", "+", "-", "*"), m.expr(deep-1))
}

// speller spells a tree: canonically if it has no random numbers, otherwise with as few parentheses as possible and
// some that are not needed. Words after which, or around which, the canonical form has blanks contain them.
type speller struct {
	*rand.Rand
	words []string
}

// wordsOf returns the words of a program.
func wordsOf(n api.Node, random *rand.Rand) []string {
	s := speller{Rand: random}
	s.items(n.Kids)
	return s.words
}

func (s *speller) chance(n int) bool {
	return s.Rand != nil && s.Intn(n) == 0
}

// add adds words and, where it finds a node, its words.
func (s *speller) add(parts ...any) {
	for _, x := range parts {
		switch x := x.(type) {
		case string:
			s.words = append(s.words, x)
		case uint64:
			s.words = append(s.words, s.digits(x))
		case api.Node:
			s.expr(x, 1)
		}
	}
}

// digits returns a number with leading zeros, unless the spelling is canonical.
func (s *speller) digits(n uint64) string {
	text := decimal(n)
	for len(text) < 10 && s.chance(5) {
		text = "0" + text
	}
	return text
}

// decimal is the reference for numbers without leading zeros.
func decimal(n uint64) string {
	text := string(rune('0' + n%10))
	if n < 10 {
		return text
	}
	return decimal(n/10) + text
}

func (s *speller) items(l []api.Node) {
	for _, n := range l {
		s.item(n)
	}
}

func (s *speller) item(n api.Node) {
	switch n.Kind {
	case api.NoIn:
		s.add("in ", n.Text, ": ")
		s.kind(n.Kids[0])
		s.add(" from ", n.Num, ";")
	case api.NoLet:
		s.add("let ", n.Text, " = ", n.Kids[0], ";")
	case api.NoSet:
		s.add(n.Text, " = ", n.Kids[0], ";")
	case api.NoPut:
		s.add(n.Text, "[", n.Kids[0], "]", " = ", n.Kids[1], ";")
	case api.NoIf:
		s.add("if ", n.Kids[0])
		s.block(n.Kids[1])
		if len(n.Kids[2].Kids) > 0 || s.chance(2) {
			s.add("else")
			s.block(n.Kids[2])
		}
	case api.NoFor:
		s.add("for ", n.Text, " = ", n.Kids[0], " to ", n.Kids[1])
		s.block(n.Kids[2])
	case api.NoOut:
		s.add("out ", n.Kids[0], " to ")
		s.parties(n.Kids[1:])
		s.add(";")
	case api.NoDef:
		s.procedure(n)
	}
}

func (s *speller) procedure(n api.Node) {
	parameters := len(n.Kids) - 2
	s.add("def ", n.Text, "(")
	for i, arg := range n.Kids[:parameters] {
		s.comma(i)
		s.add(arg.Text, ": ")
		s.kind(arg.Kids[0])
	}
	s.add(")", "{")
	s.items(n.Kids[parameters].Kids)
	s.add("return ", n.Kids[parameters+1], ";", "}")
}

func (s *speller) block(n api.Node) {
	s.add("{")
	s.items(n.Kids)
	s.add("}")
}

func (s *speller) parties(l []api.Node) {
	if len(l) == 0 {
		s.add("all")
	}
	for i, party := range l {
		s.comma(i)
		s.add(party.Num)
	}
}

// comma adds a comma before each element of a list but the first.
func (s *speller) comma(i int) {
	if i > 0 {
		s.add(", ")
	}
}

func (s *speller) kind(n api.Node) {
	s.add([]string{"num", "bit", "word "}[n.Num-api.TyNum])
	if n.Num == api.TyWord {
		s.add(n.Kids[0].Num)
	}
	if n.Kids[1].Num > 0 || s.chance(4) {
		s.add("[", n.Kids[1].Num, "]")
	}
}

// levels tells how tightly the operators bind: those of the grammar's later rows more tightly.
var levels = map[string]int{"|": 1, "^": 2, "&": 3, "==": 4, "<": 4, "+": 5, "-": 5, "*": 6}

// The levels of a unary operator, of an index, and of what needs no parentheses.
const (
	unaryLevel = 7 + iota
	itemLevel
	primaryLevel
)

func levelOf(n api.Node) int {
	switch n.Kind {
	case api.NoBinary:
		return levels[n.Text]
	case api.NoUnary:
		return unaryLevel
	case api.NoItem:
		return itemLevel
	}
	return primaryLevel
}

// expr adds an expression where one of at least this level is required.
func (s *speller) expr(n api.Node, least int) {
	needed := levelOf(n) < least
	if s.Rand == nil {
		needed = n.Kind == api.NoBinary || n.Kind == api.NoUnary && least == itemLevel
	}
	if needed || s.chance(8) {
		s.add("(")
		s.bare(n)
		s.add(")")
		return
	}
	s.bare(n)
}

func (s *speller) bare(n api.Node) {
	switch n.Kind {
	case api.NoNumber:
		s.add(n.Num)
	case api.NoName:
		s.add(n.Text)
	case api.NoCall:
		s.add(n.Text)
		s.exprs("(", n.Kids, ")")
	case api.NoList:
		s.exprs("[", n.Kids, "]")
	case api.NoItem:
		s.expr(n.Kids[0], itemLevel)
		s.add("[", n.Kids[1], "]")
	case api.NoUnary:
		s.add(n.Text)
		s.expr(n.Kids[0], unaryLevel)
	case api.NoBinary:
		s.binary(n)
	}
}

func (s *speller) exprs(open string, l []api.Node, end string) {
	s.add(open)
	for i, n := range l {
		s.comma(i)
		s.add(n)
	}
	s.add(end)
}

// binary adds both operands. Those of a comparison are no comparisons themselves.
func (s *speller) binary(n api.Node) {
	left := levels[n.Text]
	if n.Text == "==" || n.Text == "<" {
		left++
	}
	s.expr(n.Kids[0], left)
	s.add(" " + n.Text + " ")
	s.expr(n.Kids[1], levels[n.Text]+1)
}

// plain returns the words without their blanks.
func plain(words []string) []string {
	var l []string
	for _, w := range words {
		l = append(l, strings.TrimSpace(w))
	}
	return l
}

// laid returns the words with random blanks and comments before, between and after them.
func laid(words []string, random *rand.Rand) string {
	var text strings.Builder
	words = plain(words)
	for i, w := range words {
		gap := randomGap(random)
		if gap == "" && i > 0 && sticks(words[i-1], w) {
			gap = pick(random, " ", "\n", "\t", "\r", "//\n")
		}
		text.WriteString(gap + w)
	}
	text.WriteString(randomGap(random) + pick(random, "", "", "// x", "//"))
	return text.String()
}

// sticks reports whether the second word would become a part of the first one if nothing lay between them.
func sticks(v, w string) bool {
	first, last := v[0], w[0]
	isDigit := '0' <= last && last <= '9'
	isLetter := 'a' <= last && last <= 'z'
	switch {
	case 'a' <= first && first <= 'z':
		return isDigit || isLetter
	case '0' <= first && first <= '9':
		return isDigit
	}
	return v == "=" && last == '='
}

func randomGap(random *rand.Rand) string {
	gap := ""
	for random.Intn(3) == 0 {
		gap += pick(random, " ", "\t", "\r", "\n", "//\n", "// let a = (;\n", "//// } \xff\r\n")
	}
	return gap
}

// canonical lays out canonical words: their blanks are in the words.
func canonical(words []string) string {
	text, open := "", 0
	fresh := true
	for i, w := range words {
		if w == "}" {
			open--
		}
		if fresh {
			text += strings.Repeat("  ", open)
		}
		if w == "{" {
			open++
			w = " {"
		}
		if w == "else" {
			w = " else"
		}
		text += w
		fresh = w == ";" || w == " {" || w == "}" && (i+1 == len(words) || words[i+1] != "else")
		if fresh {
			text += "\n"
		}
	}
	return text
}

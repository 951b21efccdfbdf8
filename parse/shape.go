package parse

import (
	"slices"

	"junto/api"
	"junto/token"
)

// maxNumber is the largest number of a program.
const maxNumber = 1<<32 - 1

func isProgram(n api.Node) bool {
	return n.Kind == api.NoProgram && isBare(n) && all(n.Kids, isItem)
}

func isItem(n api.Node) bool {
	switch n.Kind {
	case api.NoIn:
		return isName(n.Text) && n.Num <= maxNumber && match(n.Kids, isType)
	case api.NoLet, api.NoSet:
		return hasName(n) && match(n.Kids, isExpr)
	case api.NoPut:
		return hasName(n) && match(n.Kids, isExpr, isExpr)
	case api.NoIf:
		return isBare(n) && match(n.Kids, isExpr, isBlock, isBlock)
	case api.NoFor:
		return hasName(n) && match(n.Kids, isExpr, isExpr, isBlock)
	case api.NoOut:
		return isBare(n) && len(n.Kids) > 0 && isExpr(n.Kids[0]) && all(n.Kids[1:], isRecipient)
	case api.NoDef:
		parameters := len(n.Kids) - 2
		return hasName(n) && parameters >= 0 && all(n.Kids[:parameters], isParameter) &&
			match(n.Kids[parameters:], isBlock, isExpr)
	}
	return false
}

func isBlock(n api.Node) bool {
	return n.Kind == api.NoBlock && isBare(n) && all(n.Kids, isItem)
}

func isRecipient(n api.Node) bool {
	return n.Kind == api.NoTo && hasNumber(n)
}

func isParameter(n api.Node) bool {
	return n.Kind == api.NoArg && hasName(n) && match(n.Kids, isType)
}

func isType(n api.Node) bool {
	if n.Kind != api.NoType || n.Text != "" || !match(n.Kids, isNumber, isNumber) {
		return false
	}
	switch n.Num {
	case api.TyNum, api.TyBit:
		return n.Kids[0].Num == 0
	}
	return n.Num == api.TyWord
}

func isNumber(n api.Node) bool {
	return n.Kind == api.NoNumber && hasNumber(n)
}

func isExpr(n api.Node) bool {
	switch n.Kind {
	case api.NoNumber:
		return isNumber(n)
	case api.NoName:
		return hasName(n) && len(n.Kids) == 0
	case api.NoCall:
		return isFunction(n.Text) && n.Num == 0 && all(n.Kids, isExpr)
	case api.NoItem:
		return isBare(n) && match(n.Kids, isExpr, isExpr)
	case api.NoList:
		return isBare(n) && len(n.Kids) > 0 && all(n.Kids, isExpr)
	case api.NoUnary:
		return isUnary(n.Text) && n.Num == 0 && match(n.Kids, isExpr)
	case api.NoBinary:
		return isBinary(n.Text) && n.Num == 0 && match(n.Kids, isExpr, isExpr)
	}
	return false
}

// isBare reports whether a node has neither a text nor a number.
func isBare(n api.Node) bool {
	return n.Text == "" && n.Num == 0
}

// hasName reports whether the text of a node is a name, and the node has no number.
func hasName(n api.Node) bool {
	return isName(n.Text) && n.Num == 0
}

// hasNumber reports whether a node has a number of a program and nothing else.
func hasNumber(n api.Node) bool {
	return n.Text == "" && n.Num <= maxNumber && len(n.Kids) == 0
}

// isName reports whether a variable or procedure may have this name.
func isName(s string) bool {
	return token.IsName(s) && !token.IsReserved(s)
}

// isFunction reports whether a function that is called may have this name.
func isFunction(s string) bool {
	switch s {
	case "num", "bit", "word":
		return true
	}
	return isName(s)
}

func isUnary(sign string) bool {
	return sign == "!" || sign == "-"
}

func isBinary(sign string) bool {
	switch sign {
	case "|", "^", "&", "==", "<", "+", "-", "*":
		return true
	}
	return false
}

// match reports whether each node satisfies its predicate, and there are as many of both.
func match(l []api.Node, predicates ...func(n api.Node) bool) bool {
	return slices.EqualFunc(l, predicates, func(n api.Node, holds func(n api.Node) bool) bool { return holds(n) })
}

// all reports whether all nodes satisfy the predicate.
func all(l []api.Node, holds func(n api.Node) bool) bool {
	return !slices.ContainsFunc(l, func(n api.Node) bool { return !holds(n) })
}

package check

import (
	"slices"

	"junto/api"
)

// IsType reports whether t is a valid type.
func IsType(t api.Type) bool {
	if t.Items < 0 || t.Items > api.MaxItems {
		return false
	}
	switch t.Kind {
	case api.TyNum, api.TyBit:
		return t.Bits == 0
	case api.TyWord:
		return isWidth(t.Bits)
	}
	return false
}

// Size returns the length of the flat value of a type, and 0 if the type is not valid.
func Size(t api.Type) int {
	if !IsType(t) {
		return 0
	}
	return max(t.Items, 1) * max(t.Bits, 1)
}

// Unary returns the type of an operator with one operand, or ErrType if there is none.
func Unary(sign string, t api.Type) (api.Type, api.Errno) {
	switch {
	case !isPlain(t):
		return api.Type{}, api.ErrType
	case sign == "-" && t.Kind == api.TyNum, sign == "!" && t.Kind != api.TyNum:
		return t, api.OK
	}
	return api.Type{}, api.ErrType
}

// Binary returns the type of an operator with two operands, or ErrType if there is none.
func Binary(sign string, a, b api.Type) (api.Type, api.Errno) {
	t := a
	t.Secret = a.Secret || b.Secret
	if !isPlain(a) || !alike(a, b) || !accepts(sign, t) {
		return api.Type{}, api.ErrType
	}
	if sign == "==" || sign == "<" {
		return api.Type{Kind: api.TyBit, Secret: t.Secret}, api.OK
	}
	return t, api.OK
}

// accepts reports whether an operator has operands of a plain type, which is secret if one of them is.
func accepts(sign string, t api.Type) bool {
	switch sign {
	case "+", "-", "*":
		return t.Kind != api.TyBit
	case "&", "|", "^":
		return t.Kind != api.TyNum
	case "==":
		return t.Kind != api.TyNum || !t.Secret
	case "<":
		return t.Kind == api.TyWord || isPublicNum(t)
	}
	return false
}

// Item returns the type of an element of an array, or of a bit of a word, or ErrType if t is neither.
func Item(t api.Type) (api.Type, api.Errno) {
	switch {
	case !IsType(t):
		return api.Type{}, api.ErrType
	case t.Items > 0:
		t.Items = 0
		return t, api.OK
	case t.Kind == api.TyWord:
		return api.Type{Kind: api.TyBit, Secret: t.Secret}, api.OK
	}
	return api.Type{}, api.ErrType
}

// List returns the type of an array with elements of these types, or ErrType if there is none.
func List(l []api.Type) (api.Type, api.Errno) {
	if len(l) == 0 || len(l) > api.MaxItems {
		return api.Type{}, api.ErrType
	}
	t := l[0]
	for _, element := range l {
		if !isPlain(element) || !alike(element, t) {
			return api.Type{}, api.ErrType
		}
	}
	t.Items = len(l)
	t.Secret = slices.ContainsFunc(l, isSecret)
	return t, api.OK
}

// isWidth reports whether a word may have so many bits.
func isWidth(bits int) bool {
	return bits >= 1 && bits <= api.MaxBits
}

func isPlain(t api.Type) bool {
	return IsType(t) && t.Items == 0
}

func isPublicNum(t api.Type) bool {
	return t == api.Type{Kind: api.TyNum}
}

func isSecret(t api.Type) bool {
	return t.Secret
}

// alike reports whether types are equal except for Secret.
func alike(a, b api.Type) bool {
	a.Secret = b.Secret
	return a == b
}

package check

import (
	"slices"

	"junto/api"
)

// builtIn returns the type of a call of a function, and whether there is one. All arguments have valid types.
type builtIn func(bits int, l []api.Type) (api.Type, bool)

// Call returns the type of a call of a function that every program has, or an error if there is none.
func Call(name string, bits int, l []api.Type) (api.Type, api.Errno) {
	function, found := builtIns()[name]
	if !found {
		return api.Type{}, api.ErrName
	}
	return function.call(bits, l)
}

func (f builtIn) call(bits int, l []api.Type) (api.Type, api.Errno) {
	if slices.ContainsFunc(l, func(t api.Type) bool { return !IsType(t) }) {
		return api.Type{}, api.ErrType
	}
	t, fits := f(bits, l)
	if !fits {
		return api.Type{}, api.ErrType
	}
	return t, api.OK
}

// builtIns returns the functions that every program has, by name.
func builtIns() map[string]builtIn {
	return map[string]builtIn{
		"num": ofOne(func(t api.Type) (api.Type, bool) {
			return api.Type{Kind: api.TyNum, Secret: t.Secret}, isPlain(t)
		}),
		"bit": ofOne(func(t api.Type) (api.Type, bool) {
			return api.Type{Kind: api.TyBit, Secret: t.Secret}, isPublicNum(t) || isBit(t)
		}),
		"word": word,
		"mux":  mux,
		"sort": ofOne(func(t api.Type) (api.Type, bool) {
			return t, t.Kind == api.TyWord && t.Items > 0
		}),
		"secret": ofOne(func(t api.Type) (api.Type, bool) {
			t.Secret = true
			return t, true
		}),
		"len": ofOne(func(t api.Type) (api.Type, bool) {
			return api.Type{Kind: api.TyNum}, t.Kind == api.TyWord || t.Items > 0
		}),
	}
}

// ofOne returns a function with one argument and no number of bits, which is given by its result for the argument.
func ofOne(result func(t api.Type) (api.Type, bool)) builtIn {
	return func(bits int, l []api.Type) (api.Type, bool) {
		if bits != 0 || len(l) != 1 {
			return api.Type{}, false
		}
		return result(l[0])
	}
}

func word(bits int, l []api.Type) (api.Type, bool) {
	if !isWidth(bits) || len(l) != 1 || !isPlain(l[0]) {
		return api.Type{}, false
	}
	t := l[0]
	return api.Type{Kind: api.TyWord, Bits: bits, Secret: t.Secret}, t.Kind != api.TyNum || !t.Secret
}

func mux(bits int, l []api.Type) (api.Type, bool) {
	if bits != 0 || len(l) != 3 || !isBit(l[0]) || !alike(l[1], l[2]) {
		return api.Type{}, false
	}
	t := l[1]
	t.Secret = slices.ContainsFunc(l, isSecret)
	return t, true
}

func isBit(t api.Type) bool {
	return t.Kind == api.TyBit && isPlain(t)
}

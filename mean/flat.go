package mean

import (
	"slices"

	"junto/api"
	"junto/check"
	"junto/field"
)

// Flat returns the flat value of the numbers of a value.
func Flat(p uint64, t api.Type, l []uint64) ([]uint64, api.Errno) {
	if !field.Is(p) || !check.IsType(t) || len(l) != max(t.Items, 1) || !areBelow(l, count(p, t)) {
		return nil, api.ErrArg
	}
	return flat(t, l), api.OK
}

// Numbers returns the numbers of a flat value.
func Numbers(p uint64, t api.Type, flat []uint64) ([]uint64, api.Errno) {
	if !field.Is(p) || !check.IsType(t) || len(flat) != check.Size(t) || !areBelow(flat, flatCount(p, t)) {
		return nil, api.ErrArg
	}
	var l []uint64
	for element := range slices.Chunk(flat, max(t.Bits, 1)) {
		l = append(l, number(element))
	}
	return l, api.OK
}

// count returns how many values an element of a type has.
func count(p uint64, t api.Type) uint64 {
	switch t.Kind {
	case api.TyNum:
		return p
	case api.TyBit:
		return 2
	}
	return 1 << t.Bits
}

// flatCount returns how many values an element of a flat value has.
func flatCount(p uint64, t api.Type) uint64 {
	if t.Kind == api.TyNum {
		return p
	}
	return 2
}

func areBelow(l []uint64, limit uint64) bool {
	return !slices.ContainsFunc(l, func(x uint64) bool { return x >= limit })
}

// flat returns the flat value of valid numbers.
func flat(t api.Type, l []uint64) []uint64 {
	if t.Kind != api.TyWord {
		return slices.Clone(l)
	}
	var all []uint64
	for _, x := range l {
		for i := range t.Bits {
			all = append(all, x>>i&1)
		}
	}
	return all
}

// number returns the number whose flat value is given.
func number(flat []uint64) uint64 {
	x := uint64(0)
	for i, bit := range flat {
		x += bit << i
	}
	return x
}

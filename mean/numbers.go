package mean

import (
	"slices"

	"junto/api"
	"junto/check"
)

// numbers computes with numbers, as execute.Values requires.
type numbers struct {
	p      uint64
	inputs []uint64 // those that have not been read
	told   []api.Told
}

func (m *numbers) Number(n uint64) uint64 {
	return n % m.p
}

func (m *numbers) Known(x uint64) uint64 {
	return x
}

func (m *numbers) In(t api.Type) uint64 {
	size := check.Size(t)
	x := number(m.inputs[:size])
	m.inputs = m.inputs[size:]
	return x
}

func (m *numbers) Out(to []int, t api.Type, l []uint64) {
	m.told = append(m.told, api.Told{To: to, Values: flat(t, l)})
}

func (m *numbers) Unary(sign string, t api.Type, x uint64) uint64 {
	n := count(m.p, t)
	if sign == "-" {
		return (n - x) % n
	}
	return n - 1 - x
}

func (m *numbers) Binary(sign string, t api.Type, x, y uint64) uint64 {
	n := count(m.p, t)
	switch sign {
	case "+":
		return (x + y) % n
	case "-":
		return (x + n - y) % n
	case "*":
		return x * y % n
	case "&":
		return x & y
	case "|":
		return x | y
	case "^":
		return x ^ y
	case "==":
		return truth(x == y)
	}
	return truth(x < y)
}

func truth(holds bool) uint64 {
	if holds {
		return 1
	}
	return 0
}

func (m *numbers) Bit(x uint64, i int) uint64 {
	return x >> i & 1
}

func (m *numbers) Convert(_, to api.Type, x uint64) uint64 {
	if to.Kind == api.TyBit {
		return truth(x != 0)
	}
	return x % count(m.p, to)
}

func (m *numbers) Pick(c, x, y uint64) uint64 {
	if c == 1 {
		return x
	}
	return y
}

func (m *numbers) Sort(_ api.Type, l []uint64) []uint64 {
	return slices.Sorted(slices.Values(l))
}

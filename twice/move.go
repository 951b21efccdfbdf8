package twice

import (
	"junto/api"
	"junto/poly"
	"junto/share"
)

// Moved returns the mask in which q_0 z is subtracted from f and q_k z from each g_k, or ErrLimit if z or q has more
// than T + 1 coefficients.
func Moved(s api.Setup, l [][]uint64, z, q []uint64) ([][]uint64, api.Errno) {
	if e := Check(s, l); e != api.OK {
		return nil, e
	}
	for _, f := range [][]uint64{z, q} {
		if e := checkShort(s, f); e != api.OK {
			return nil, e
		}
	}
	moved := make([][]uint64, len(l))
	for k, f := range l {
		g, e := minusMultiple(s.P, f, coefficient(q, k), z)
		if e != api.OK {
			return nil, e
		}
		moved[k] = g
	}
	return moved, api.OK
}

// Cut returns the polynomial z that is 1 at 0 and 0 at the points of the corrupted parties, and the quotient of d and
// z, or ErrWrong if z does not divide d.
func Cut(s api.Setup, corrupted []int, d []uint64) ([]uint64, []uint64, api.Errno) {
	if e := share.Corrupted(s, corrupted); e != api.OK {
		return nil, nil, e
	}
	z, e := poly.Away(s.P, pointsOf(corrupted)...)
	if e != api.OK {
		return nil, nil, e
	}
	q, rest, e := poly.Divide(s.P, d, z)
	if e != api.OK {
		return nil, nil, e
	}
	if len(rest) > 0 {
		return nil, nil, api.ErrWrong
	}
	return z, q, api.OK
}

package share

import (
	"junto/api"
	"junto/field"
)

// Setup returns ErrArg if s is not a valid setup.
func Setup(s api.Setup) api.Errno {
	if s.N < 1 || s.N > api.MaxParties || !field.Is(s.P) || s.P <= uint64(s.N) {
		return api.ErrArg
	}
	// This asks whether N is at least 4T + 1, which may overflow.
	if s.T < 0 || s.T > (s.N-1)/4 {
		return api.ErrArg
	}
	return api.OK
}

// Corrupted returns ErrArg if l is not a strictly increasing list of at most T parties.
func Corrupted(s api.Setup, l []int) api.Errno {
	if e := Setup(s); e != api.OK {
		return e
	}
	if len(l) > s.T {
		return api.ErrArg
	}
	before := 0
	for _, party := range l {
		if party <= before || party > s.N {
			return api.ErrArg
		}
		before = party
	}
	return api.OK
}

// forParties returns one number for each party, or the first error. It computes nothing if s is not valid.
func forParties(s api.Setup, compute func(party int) (uint64, api.Errno)) ([]uint64, api.Errno) {
	if e := Setup(s); e != api.OK {
		return nil, e
	}
	numbers := make([]uint64, s.N)
	for i := range numbers {
		number, e := compute(i + 1)
		if e != api.OK {
			return nil, e
		}
		numbers[i] = number
	}
	return numbers, api.OK
}

// pointsOf returns the evaluation points of the parties of l.
func pointsOf(l []int) []uint64 {
	points := make([]uint64, len(l))
	for i, party := range l {
		points[i] = uint64(party)
	}
	return points
}

package mean_test

import (
	"math"
	"slices"
	"testing"

	"junto/api"
	"junto/check"
	"junto/mean"
)

// flatTypes returns all kinds and widths, with several numbers of elements.
func flatTypes() []api.Type {
	l := []api.Type{{Kind: api.TyNum}, {Kind: api.TyBit}}
	for k := range 16 {
		l = append(l, api.Type{Kind: api.TyWord, Bits: k + 1})
	}
	var all []api.Type
	for _, t := range l {
		for _, items := range []int{0, 1, 2, 31, 32} {
			t.Items = items
			all = append(all, t)
			t.Secret = true
			all = append(all, t)
		}
	}
	return all
}

// limit returns the smallest number that is not an element of a type.
func limit(p uint64, t api.Type) uint64 {
	return []uint64{p, 2, 1 << t.Bits}[t.Kind-api.TyNum]
}

// isArg checks that a function returns ErrArg and nothing else.
func isArg(t *testing.T, l []uint64, e api.Errno, what ...any) {
	t.Helper()
	if l != nil || e != api.ErrArg {
		t.Error(what, l, e)
	}
}

// P11.1

func TestFlat(t *testing.T) {
	m := newMaker(1, 1)
	for _, p := range []uint64{3, 5, 257, 65537} {
		for _, x := range flatTypes() {
			for range 3 {
				var numbers, want []uint64
				for range max(x.Items, 1) {
					number := pick(m, 0, limit(p, x)-1, uint64(m.Intn(int(limit(p, x)))))
					numbers = append(numbers, number)
					if x.Kind == api.TyWord {
						want = append(want, bits(number, x.Bits)...)
					} else {
						want = append(want, number)
					}
				}
				flat, e := mean.Flat(p, x, numbers)
				if e != api.OK || !slices.Equal(flat, want) || len(flat) != check.Size(x) {
					t.Error(p, x, numbers, flat, e, want)
				}
				back, e := mean.Numbers(p, x, flat)
				if e != api.OK || !slices.Equal(back, numbers) {
					t.Error(p, x, numbers, flat, back, e)
				}
			}
		}
	}
}

func TestFlatExamples(t *testing.T) {
	words := api.Type{Kind: api.TyWord, Bits: 4, Items: 2}
	flat, e := mean.Flat(11, words, []uint64{6, 9})
	if e != api.OK || !slices.Equal(flat, []uint64{0, 1, 1, 0, 1, 0, 0, 1}) {
		t.Error(flat, e)
	}
	numbers, e := mean.Numbers(11, words, []uint64{0, 1, 1, 0, 1, 0, 0, 1})
	if e != api.OK || !slices.Equal(numbers, []uint64{6, 9}) {
		t.Error(numbers, e)
	}
	// A word may be greater than the prime, because only its bits are field elements.
	flat, e = mean.Flat(3, api.Type{Kind: api.TyWord, Bits: 16}, []uint64{65535})
	if e != api.OK || !slices.Equal(flat, slices.Repeat([]uint64{1}, 16)) {
		t.Error(flat, e)
	}
}

func TestFlatPrime(t *testing.T) {
	for _, p := range []uint64{0, 1, 2, 4, 9, 65535, 65536, 65539, 1 << 32, math.MaxUint64} {
		l, e := mean.Flat(p, api.Type{Kind: api.TyNum}, []uint64{0})
		isArg(t, l, e, "Flat", p)
		l, e = mean.Numbers(p, api.Type{Kind: api.TyNum}, []uint64{0})
		isArg(t, l, e, "Numbers", p)
	}
}

func TestFlatInvalidTypes(t *testing.T) {
	for _, x := range []api.Type{
		{}, {Kind: -1}, {Kind: 4}, {Kind: api.TyNum, Bits: 1}, {Kind: api.TyBit, Bits: 1}, {Kind: api.TyWord},
		{Kind: api.TyWord, Bits: 17}, {Kind: api.TyWord, Bits: -1}, {Kind: api.TyNum, Items: 33}, {Kind: api.TyBit, Items: -1},
		{Kind: api.TyWord, Bits: math.MinInt}, {Kind: api.TyWord, Bits: math.MaxInt}, {Kind: api.TyNum, Items: math.MaxInt}, {Kind: api.TyNum, Items: math.MinInt},
	} {
		for n := range 40 {
			l, e := mean.Flat(11, x, make([]uint64, n))
			isArg(t, l, e, "Flat", x, n)
			l, e = mean.Numbers(11, x, make([]uint64, n))
			isArg(t, l, e, "Numbers", x, n)
		}
	}
}

func TestFlatLengths(t *testing.T) {
	for _, x := range flatTypes() {
		for n := range 600 {
			l, e := mean.Flat(11, x, make([]uint64, n))
			if n != max(x.Items, 1) {
				isArg(t, l, e, "Flat", x, n)
			}
			l, e = mean.Numbers(11, x, make([]uint64, n))
			if n != max(x.Items, 1)*max(x.Bits, 1) {
				isArg(t, l, e, "Numbers", x, n)
			}
		}
	}
}

func TestFlatElements(t *testing.T) {
	for _, p := range []uint64{3, 11, 65537} {
		for _, x := range flatTypes() {
			numbers := make([]uint64, max(x.Items, 1))
			for i := range numbers {
				for _, bad := range []uint64{limit(p, x), limit(p, x) + 1, 1 << 32, math.MaxUint64} {
					numbers[i] = bad
					l, e := mean.Flat(p, x, numbers)
					isArg(t, l, e, "Flat", p, x, numbers)
				}
				numbers[i] = 0
			}
			flat := make([]uint64, check.Size(x))
			for i := range flat {
				for _, bad := range []uint64{limit(p, api.Type{Kind: min(x.Kind, api.TyBit)}), 1 << 32, math.MaxUint64} {
					flat[i] = bad
					l, e := mean.Numbers(p, x, flat)
					isArg(t, l, e, "Numbers", p, x, flat)
				}
				flat[i] = 0
			}
		}
	}
}

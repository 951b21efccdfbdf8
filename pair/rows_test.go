package pair_test

import (
	"slices"
	"testing"

	"junto/api"
	"junto/pair"
)

// P6.5

// quarrels is the reference for Quarrels: the lesser and the greater index of all two rows, in order.
func quarrels(p uint64, xs []uint64, rows [][]uint64) [][]uint64 {
	var l [][]uint64
	for i := range xs {
		for k := range xs {
			if i < k && value(p, rows[i], xs[k]) != value(p, rows[k], xs[i]) {
				l = append(l, list(uint64(i), uint64(k)))
			}
		}
	}
	return l
}

func TestQuarrelsOfAnyRows(t *testing.T) {
	for _, p := range primes {
		random := randomFor(p)
		for n := range 14 {
			for _, length := range []int{0, 1, 2, 4, 10, 200, 201} {
				xs := places(random, p, n, 0)
				rows := make([][]uint64, len(xs))
				for i := range rows {
					rows[i] = drawn(random, p, random.Intn(length+1))
				}
				expect(t, "Quarrels", disputed(pair.Quarrels(p, xs, rows)), quarrels(p, xs, rows)...)
			}
		}
	}
}

func TestQuarrelsOfRowsOfAPair(t *testing.T) {
	for _, p := range primes {
		random := randomFor(p)
		for threshold := range 4 {
			for n := range 14 {
				xs := places(random, p, n, 0)
				rows := rowsOf(p, randomPair(random, p, threshold), xs)
				expect(t, "Quarrels", disputed(pair.Quarrels(p, xs, rows)))
				for i := range rows {
					// A constant is added to the row, so that it differs everywhere from what it was.
					bad := copied(rows)
					bad[i] = padded(rows[i], max(0, 1-len(rows[i])))
					bad[i][0] = (bad[i][0] + 1) % p
					var want [][]uint64
					for k := range len(xs) {
						if k != i {
							want = append(want, list(uint64(min(i, k)), uint64(max(i, k))))
						}
					}
					expect(t, "Quarrels of one", disputed(pair.Quarrels(p, xs, bad)), want...)
				}
			}
		}
	}
}

func TestQuarrelsInOrder(t *testing.T) {
	xs := list(4, 0, 5, 2)
	rows := [][]uint64{{1}, {2}, {3}, {4}}
	want := [][]uint64{{0, 1}, {0, 2}, {0, 3}, {1, 2}, {1, 3}, {2, 3}}
	expect(t, "Quarrels", disputed(pair.Quarrels(7, xs, rows)), want...)
	rows[2] = list(1, 0, 0)
	expect(t, "Quarrels", disputed(pair.Quarrels(7, xs, rows)), slices.Delete(want, 1, 2)...)
	// The value of a row at its own x does not matter, nor does a row of a high degree as such.
	expect(t, "Quarrels", disputed(pair.Quarrels(7, list(1), [][]uint64{{6, 5, 4, 3, 2, 1}})))
	expect(t, "Quarrels", disputed(pair.Quarrels(7, list(1, 2), [][]uint64{{0, 0, 0, 1}, {1}})))
	expect(t, "Quarrels of nothing", disputed(pair.Quarrels(7, nil, nil)))
}

// badRows are rows with their errors. The first element that is no polynomial counts.
func badRows(p uint64) map[api.Errno][][][]uint64 {
	long, element, both := make([]uint64, 202), list(1, p), append(make([]uint64, 201), p)
	return map[api.Errno][][][]uint64{
		api.ErrLimit: {{long, nil}, {nil, long}, {both, nil}, {nil, both}, {long, element}, {both, element}, {make([]uint64, 1000), nil}},
		api.ErrArg:   {{element, nil}, {nil, element}, {element, long}, {element, both}, {append(make([]uint64, 200), p), long}, {list(1 << 63), nil}},
	}
}

// failsAsPlaces checks that Quarrels, and Join with every threshold, return this error.
func failsAsPlaces(t *testing.T, what string, p uint64, xs []uint64, rows [][]uint64, e api.Errno) {
	t.Helper()
	fails(t, "Quarrels of "+what, disputed(pair.Quarrels(p, xs, rows)), e)
	for threshold := range 4 {
		fails(t, "Join of "+what, got(pair.Join(p, threshold, xs, rows)), e)
	}
	for _, threshold := range badThresholds {
		fails(t, "Join with a bad threshold of "+what, got(pair.Join(p, threshold, xs, rows)), api.ErrArg)
	}
}

// Every step of this test breaks one more of the conditions, in the reverse order of the chapter.
func TestErrorsOfPlaces(t *testing.T) {
	for _, p := range primes {
		for e, l := range badRows(p) {
			for _, rows := range l {
				failsAsPlaces(t, "bad rows", p, list(1, 2), rows, e)
				failsAsPlaces(t, "bad rows at equal places", p, list(2, 2), rows, api.ErrTwice)
				for _, x := range notBelow(p) {
					failsAsPlaces(t, "bad rows at no element", p, list(1, x), rows, api.ErrArg)
					failsAsPlaces(t, "bad rows at no elements", p, list(x, x), rows, api.ErrArg)
					failsAsPlaces(t, "bad rows at many places", p, slices.Repeat(list(x), 14), slices.Repeat(rows, 7), api.ErrLimit)
				}
				failsAsPlaces(t, "fewer places than bad rows", p, list(1), rows, api.ErrArg)
				failsAsPlaces(t, "no places of bad rows", p, nil, rows, api.ErrArg)
				failsAsPlaces(t, "more places than bad rows", p, list(1, 1, 2), rows, api.ErrArg)
				failsAsPlaces(t, "many bad rows", p, list(1, 2), slices.Repeat(rows, 100), api.ErrArg)
				failsAsPlaces(t, "many places", p, make([]uint64, 14), rows, api.ErrLimit)
			}
		}
		failsAsPlaces(t, "equal places", p, list(1, 2, 1), make([][]uint64, 3), api.ErrTwice)
		failsAsPlaces(t, "equal places", p, list(0, 0), [][]uint64{{1}, {1}}, api.ErrTwice)
		failsAsPlaces(t, "13 equal places", p, make([]uint64, 13), make([][]uint64, 13), api.ErrTwice)
		failsAsPlaces(t, "14 places", p, make([]uint64, 14), make([][]uint64, 14), api.ErrLimit)
		failsAsPlaces(t, "14 places of no rows", p, make([]uint64, 14), nil, api.ErrLimit)
		failsAsPlaces(t, "14 rows at no places", p, nil, make([][]uint64, 14), api.ErrArg)
	}
	for _, p := range badPrimes {
		for _, n := range []int{0, 2, 14, 100} {
			fails(t, "Quarrels with a bad prime", disputed(pair.Quarrels(p, make([]uint64, n), make([][]uint64, n))), api.ErrArg)
			fails(t, "Join with a bad prime", got(pair.Join(p, 1, make([]uint64, n), make([][]uint64, n))), api.ErrArg)
			fails(t, "Join with a bad prime", got(pair.Join(p, 4, make([]uint64, n), nil)), api.ErrArg)
		}
	}
}

func TestManyPlaces(t *testing.T) {
	f := randomPair(randomFor(17), 17, 3)
	xs := list(16, 15, 14, 13, 12, 11, 10, 9, 8, 7, 6, 5, 4, 3)
	expect(t, "Join of 13 rows", got(pair.Join(17, 3, xs[:13], rowsOf(17, f, xs[:13]))), f...)
	failsAsPlaces(t, "14 good rows", 17, xs, rowsOf(17, f, xs), api.ErrLimit)
}

// P6.6

func TestJoin(t *testing.T) {
	for _, p := range primes {
		random := randomFor(p)
		for threshold := range 4 {
			for n := threshold + 1; n <= 13 && uint64(n) <= p; n++ {
				f := randomPair(random, p, threshold)
				xs := places(random, p, n, 0)
				rows := rowsOf(p, f, xs)
				expect(t, "Join", got(pair.Join(p, threshold, xs, rows)), f...)
				for i, row := range rows {
					rows[i] = padded(row, []int{0, 1, 4, 201 - len(row)}[random.Intn(4)])
				}
				expect(t, "Join of rows with trailing zeros", got(pair.Join(p, threshold, xs, rows)), f...)
				expect(t, "Join of zeros", got(pair.Join(p, threshold, xs, make([][]uint64, n))), blank(threshold)...)
			}
		}
	}
	f := [][]uint64{{3, 2}, {2, 5}}
	expect(t, "Join", got(pair.Join(7, 1, list(1, 2, 3), [][]uint64{{5}, {0, 5}, {2, 3}})), f...)
	expect(t, "Join", got(pair.Join(7, 1, list(3, 0), [][]uint64{{2, 3}, {3, 2, 0, 0}})), f...)
	expect(t, "Join", got(pair.Join(7, 0, list(3), [][]uint64{{6}})), list(6))
}

// A pair is also a pair for a greater threshold, if there are enough rows for it, and mostly none for a smaller one.
func TestJoinWithOtherThresholds(t *testing.T) {
	for _, p := range []uint64{13, 65537} {
		random := randomFor(p)
		for threshold := range 4 {
			f := with(randomPair(random, p, threshold), threshold, threshold, 1)
			xs := places(random, p, 13, 0)
			rows := rowsOf(p, f, xs)
			for other := range 4 {
				if other < threshold {
					fails(t, "Join", got(pair.Join(p, other, xs, rows)), api.ErrWrong)
					continue
				}
				want := blank(other)
				for i, row := range f {
					copy(want[i], row)
				}
				expect(t, "Join", got(pair.Join(p, other, xs, rows)), want...)
			}
		}
	}
}

func TestJoinOfFewRows(t *testing.T) {
	for _, p := range primes {
		random := randomFor(p)
		for threshold := range 4 {
			for n := 0; n <= threshold && uint64(n) <= p; n++ {
				xs := places(random, p, n, 0)
				rows := rowsOf(p, randomPair(random, p, threshold), xs)
				fails(t, "Join of few rows", got(pair.Join(p, threshold, xs, rows)), api.ErrFew)
				for i := range rows {
					rows[i] = append(drawn(random, p, 10), 1)
				}
				fails(t, "Join of few wrong rows", got(pair.Join(p, threshold, xs, rows)), api.ErrFew)
			}
		}
	}
}

func TestJoinOfWrongRows(t *testing.T) {
	for _, p := range primes {
		random := randomFor(p)
		for threshold := range 4 {
			for n := threshold + 1; n <= 13 && uint64(n) <= p; n++ {
				f := randomPair(random, p, threshold)
				xs := places(random, p, n, 0)
				rows := rowsOf(p, f, xs)
				for i, row := range rows {
					for k := range threshold + 3 {
						bad := copied(rows)
						bad[i] = padded(row, threshold+3-len(row))
						bad[i][k] = (bad[i][k] + 1 + random.Uint64()%(p-1)) % p
						// For k > t, the row is of a too high degree. Otherwise it may be the row of another pair, if
						// there are no places except 0 where other rows are compared with it.
						if k <= threshold && len(quarrels(p, xs, bad)) == 0 {
							continue
						}
						fails(t, "Join", got(pair.Join(p, threshold, xs, bad)), api.ErrWrong)
					}
				}
			}
		}
	}
}

// These rows agree wherever two of them meet, but one of them is of a too high degree.
func TestJoinOfAgreeingRows(t *testing.T) {
	for _, p := range []uint64{13, 65537} {
		random := randomFor(p)
		for threshold := range 4 {
			for n := threshold + 1; n <= 8; n++ {
				xs := places(random, p, n, 0)
				rows := rowsOf(p, randomPair(random, p, threshold), xs)
				zero := list(1)
				for _, x := range xs {
					longer := make([]uint64, len(zero)+1)
					for i, c := range zero {
						longer[i] = (longer[i] + (p-x)*c) % p
						longer[i+1] = (longer[i+1] + c) % p
					}
					zero = longer
				}
				for i, row := range rows {
					bad := copied(rows)
					bad[i] = slices.Clone(zero)
					for k, c := range row {
						bad[i][k] = (bad[i][k] + c) % p
					}
					expect(t, "Quarrels", disputed(pair.Quarrels(p, xs, bad)))
					fails(t, "Join", got(pair.Join(p, threshold, xs, bad)), api.ErrWrong)
				}
			}
		}
	}
}

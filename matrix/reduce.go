package matrix

import (
	"slices"

	"junto/field"
)

// reduction is a matrix, with columns appended to it, that row operations have brought to reduced row echelon
// form. The appended columns have no pivots.
type reduction struct {
	rows   [][]uint64
	pivots []int // the columns of the pivots of the first rows, in increasing order
	// factor is the number by which the row operations have divided the determinant.
	factor uint64
}

// nothing appends no columns.
func nothing(int) []uint64 {
	return nil
}

// reduce returns the reduction of m, to each row of which the elements that appended returns for it are appended.
func reduce(p uint64, m [][]uint64, appended func(row int) []uint64) reduction {
	r := reduction{rows: make([][]uint64, len(m)), factor: 1}
	for i, row := range m {
		r.rows[i] = slices.Concat(row, appended(i))
	}
	for column := range m[0] {
		r.addPivot(p, column)
	}
	return r
}

// addPivot makes the column that of the next pivot, unless it is 0 in all rows that have no pivot yet.
func (r *reduction) addPivot(p uint64, column int) {
	top := len(r.pivots)
	rest := r.rows[top:]
	found := slices.IndexFunc(rest, func(row []uint64) bool { return row[column] != 0 })
	if found < 0 {
		return
	}
	if found > 0 {
		rest[0], rest[found] = rest[found], rest[0]
		r.factor = p - r.factor
	}
	// To the left of the column, the row of the pivot is 0, so that the operations need not visit these elements.
	pivot := rest[0][column:]
	r.factor = r.factor * pivot[0] % p
	inverse, _ := field.Inv(p, pivot[0])
	scale(p, pivot, inverse)
	for i, row := range r.rows {
		if i != top && row[column] != 0 {
			addTimes(p, row[column:], p-row[column], pivot)
		}
	}
	r.pivots = append(r.pivots, column)
}

// scale multiplies a row by k.
//
// This and addTimes compute with field elements directly. A function of field would test the prime for each
// product; and as field elements have at most 17 bits, nothing overflows.
func scale(p uint64, row []uint64, k uint64) {
	for i, x := range row {
		row[i] = x * k % p
	}
}

// addTimes adds k times the other row to a row.
func addTimes(p uint64, row []uint64, k uint64, other []uint64) {
	for i, x := range other {
		row[i] = (row[i] + k*x) % p
	}
}

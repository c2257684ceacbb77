package code

import (
	"cairn/api"
	"cairn/field"
)

// rowsFault is ErrRows, unless there are that many rows, ErrLengths, unless they are of one length.
func rowsFault(rows [][]byte, want int) api.Errno {
	if len(rows) != want {
		return api.ErrRows
	}
	if !even(rows) {
		return api.ErrLengths
	}
	return api.OK
}

// even tells whether the rows are of one length.
func even(rows [][]byte) bool {
	for _, row := range rows {
		if len(row) != len(rows[0]) {
			return false
		}
	}
	return true
}

// present is the rows that are not lost, and their places.
func present(rows [][]byte) ([]int, [][]byte) {
	var places []int
	var there [][]byte
	for i, row := range rows {
		if len(row) > 0 {
			places = append(places, i)
			there = append(there, row)
		}
	}
	return places, there
}

// copies is the rows anew, each in memory of its own.
func copies(rows [][]byte) [][]byte {
	out := make([][]byte, len(rows))
	for i, row := range rows {
		out[i] = make([]byte, len(row))
		copy(out[i], row)
	}
	return out
}

// sum is the sum of the rows, each times its factor; rows behind the last factor don't count.
func sum(factors []field.Elem, rows [][]byte) []byte {
	total := make([]byte, len(rows[0]))
	for j, factor := range factors {
		addMultiple(total, factor, rows[j])
	}
	return total
}

// addMultiple adds factor times from onto a row that is as long. Most factors are zero where rows come back by themselves, so that these are passed over.
func addMultiple(row []byte, factor field.Elem, from []byte) {
	if factor.IsZero() {
		return
	}
	for i, b := range field.Scale(from, factor) {
		row[i] = byte(field.Elem(row[i]).Plus(field.Elem(b)))
	}
}

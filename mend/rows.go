package mend

import "cairn/field"

// lengthOf is the length of the rows that are not lost; false, if they are not of one.
func lengthOf(rows [][]byte) (int, bool) {
	length := 0
	for _, row := range rows {
		if len(row) == 0 {
			continue
		}
		if length != 0 && len(row) != length {
			return 0, false
		}
		length = len(row)
	}
	return length, true
}

// lostOf tells of each row whether it is lost.
func lostOf(rows [][]byte) []bool {
	lost := make([]bool, len(rows))
	for i, row := range rows {
		lost[i] = len(row) == 0
	}
	return lost
}

// blank is n rows of that length, each in memory of its own.
func blank(n, length int) [][]byte {
	rows := make([][]byte, n)
	for i := range rows {
		rows[i] = make([]byte, length)
	}
	return rows
}

// columnOf is the word of the bytes c; at the places of lost rows it says nothing.
func columnOf(rows [][]byte, c int) []field.Elem {
	word := make([]field.Elem, len(rows))
	for i, row := range rows {
		if len(row) > 0 {
			word[i] = field.Elem(row[c])
		}
	}
	return word
}

// lay makes the word the column c of the rows.
func lay(rows [][]byte, c int, word []field.Elem) {
	for i, value := range word {
		rows[i][c] = byte(value)
	}
}

package code_test

import (
	"fmt"
	"math"
	"testing"

	"cairn/api"
)

// turned is what the chapter asks of Turn, by the reference's shares.
func turned(s shape, rows [][]byte, at int, data []byte) [][]byte {
	out := clone(rows)
	out[at] = data
	for i := s.k; i < s.n(); i++ {
		share := shares(upTo(s.k), i)[at]
		for c := range data {
			out[i][c] ^= times(rows[at][c]^data[c], share)
		}
	}
	return out
}

// P4.6
func TestTurnOfTheExamples(t *testing.T) {
	c := mustNew(t, shape{2, 1})
	word := [][]byte{{5, 1}, {7, 1}, {1, 1}}
	got, err := c.Turn(word, 0, []byte{4, 1})
	wantRows(t, "Turn(.., 0, 4 1)", got, err, [][]byte{{4, 1}, {7, 1}, {2, 1}})
	got, err = c.Turn(word, 2, []byte{4, 1})
	wantFault(t, "Turn(.., 2, 4 1)", got, err, api.ErrArg)
	got, err = c.Turn(word, 0, []byte{4})
	wantFault(t, "Turn(.., 0, 4)", got, err, api.ErrLengths)
}

// P4.6: whether the rows are a word is not asked.
func TestTurnOfAnyRows(t *testing.T) {
	for _, s := range append(small(), shape{10, 4}, shape{64, 63}, shape{254, 1}) {
		c := mustNew(t, s)
		rows := someRows(s.n(), 4, 1)
		for _, at := range []int{0, s.k / 2, s.k - 1} {
			data := someRows(1, 4, int64(at))[0]
			got, err := c.Turn(rows, at, data)
			wantRows(t, fmt.Sprintf("(%d, %d) Turn at %d", s.k, s.m, at), got, err, turned(s, rows, at, data))
			got, err = c.Turn(rows, at, rows[at])
			wantRows(t, fmt.Sprintf("(%d, %d) Turn at %d into itself", s.k, s.m, at), got, err, rows)
		}
	}
}

// P4.6
func TestTurnOfLongRows(t *testing.T) {
	s := shape{2, 2}
	rows, data := someRows(4, 66000, 1), someRows(1, 66000, 2)[0]
	got, err := mustNew(t, s).Turn(rows, 1, data)
	wantRows(t, "Turn", got, err, turned(s, rows, 1, data))
}

// P4.6
func TestTurnOfRowsWithoutBytes(t *testing.T) {
	for _, s := range small() {
		rows := make([][]byte, s.n())
		rows[0] = []byte{}
		for _, data := range [][]byte{nil, {}} {
			for at := range s.k {
				got, err := mustNew(t, s).Turn(rows, at, data)
				wantRows(t, "Turn of rows without bytes", got, err, rows)
			}
		}
		got, err := mustNew(t, s).Turn(rows, 0, []byte{1})
		wantFault(t, "Turn of rows without bytes into one", got, err, api.ErrLengths)
	}
}

// P4.6: the number of rows comes first, then their lengths, then the place, then the data's length.
func TestTurnOfWrongArguments(t *testing.T) {
	for _, s := range small() {
		c := mustNew(t, s)
		right, short, long := []byte{1, 2}, []byte{1}, []byte{1, 2, 3}
		wrongPlaces := []int{math.MinInt, -s.n(), -1, s.k, s.n() - 1, s.n(), 256, 1 << 32, math.MaxInt}
		for n := range s.n() + 3 {
			if n == s.n() {
				continue
			}
			for _, rows := range [][][]byte{someRows(n, 2, 1), make([][]byte, n), append(make([][]byte, n), []byte{1})[1:]} {
				for _, at := range append(wrongPlaces, 0) {
					got, err := c.Turn(rows, at, short)
					wantFault(t, "another number of rows", got, err, api.ErrRows)
				}
			}
		}
		for spoilt := range s.n() {
			for _, at := range append(wrongPlaces, 0, s.k-1) {
				for _, data := range [][]byte{right, short, nil} {
					got, err := c.Turn(unlike(someRows(s.n(), 2, 1), spoilt, 1), at, data)
					wantFault(t, "rows of unlike lengths", got, err, api.ErrLengths)
				}
			}
		}
		rows := someRows(s.n(), 2, 1)
		for _, data := range [][]byte{right, short, long, nil} {
			for _, at := range wrongPlaces {
				got, err := c.Turn(rows, at, data)
				wantFault(t, fmt.Sprintf("(%d, %d) Turn at %d", s.k, s.m, at), got, err, api.ErrArg)
			}
		}
		for _, data := range [][]byte{short, long, nil, {}} {
			for at := range s.k {
				got, err := c.Turn(rows, at, data)
				wantFault(t, fmt.Sprintf("Turn into %d bytes", len(data)), got, err, api.ErrLengths)
			}
		}
	}
}

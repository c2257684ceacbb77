package code

import (
	"bytes"

	"cairn/api"
	"cairn/field"
	"cairn/matrix"
)

// Encode is the word whose data these are: ErrNil, ErrRows, unless there are K rows, ErrLengths, unless they are of one length. (P4.3)
func (c *Code) Encode(data [][]byte) ([][]byte, api.Errno) {
	if c.none() {
		return nil, api.ErrNil
	}
	if err := rowsFault(data, c.k); err != api.OK {
		return nil, err
	}
	return c.word(copies(data)), api.OK
}

// Rebuild is the word with these rows at the K least places that are not lost: ErrNil, ErrRows, unless there are n rows, ErrLengths, unless those that are not lost are of one length, ErrFew, if they are fewer than K. (P4.4)
func (c *Code) Rebuild(rows [][]byte) ([][]byte, api.Errno) {
	if c.none() {
		return nil, api.ErrNil
	}
	if len(rows) != len(c.factors) {
		return nil, api.ErrRows
	}
	places, there := present(rows)
	if !even(there) {
		return nil, api.ErrLengths
	}
	if len(there) < c.k {
		return nil, api.ErrFew
	}
	return c.word(c.data(places[:c.k], there)), api.OK
}

// Check tells whether the rows are a word: ErrNil, ErrRows, unless there are n rows, ErrLengths, unless they are of one length. (P4.5)
func (c *Code) Check(rows [][]byte) (bool, api.Errno) {
	if c.none() {
		return false, api.ErrNil
	}
	if err := rowsFault(rows, len(c.factors)); err != api.OK {
		return false, err
	}
	for i := c.k; i < len(rows); i++ {
		if !bytes.Equal(rows[i], sum(c.factors[i], rows)) {
			return false, api.OK
		}
	}
	return true, api.OK
}

// Turn is the rows with data in the place of the row at, and the rows from K on turned along with it: ErrNil, ErrRows, unless there are n rows, ErrLengths, unless they are of one length, ErrArg, unless at is a data row's place, ErrLengths, if data is of another length. (P4.6)
func (c *Code) Turn(rows [][]byte, at int, data []byte) ([][]byte, api.Errno) {
	if c.none() {
		return nil, api.ErrNil
	}
	if err := rowsFault(rows, len(c.factors)); err != api.OK {
		return nil, err
	}
	if at < 0 || at >= c.k {
		return nil, api.ErrArg
	}
	change, err := field.Sum(rows[at], data)
	if err != api.OK {
		return nil, api.ErrLengths
	}
	turned := copies(rows)
	copy(turned[at], data)
	for i := c.k; i < len(turned); i++ {
		addMultiple(turned[i], c.factors[i][at], change)
	}
	return turned, api.OK
}

// word is that of these data. Its first rows are the very rows handed in: whoever calls made them new.
func (c *Code) word(data [][]byte) [][]byte {
	word := data
	for _, list := range c.factors[c.k:] {
		word = append(word, sum(list, data))
	}
	return word
}

// data is that of the word with these rows at the places. Any K rows of the matrix are the powers of K unlike points times an inverse, so that they have one, too.
func (c *Code) data(places []int, rows [][]byte) [][]byte {
	known, _ := matrix.Rows(c.factors, places)
	back, _ := matrix.Inverse(known)
	data := make([][]byte, c.k)
	for j, list := range back {
		data[j] = sum(list, rows)
	}
	return data
}

package code_test

import (
	"math"
	"testing"

	"cairn/api"
	"cairn/code"
)

// P4.1
func TestNewOfShapesThatMayBe(t *testing.T) {
	for _, s := range append(small(), large()...) {
		c := mustNew(t, s)
		if rows := c.Matrix(); len(rows) != s.n() || len(rows[0]) != s.k {
			t.Errorf("New(%d, %d) has %d rows", s.k, s.m, len(rows))
		}
	}
}

// P4.1
func TestNewOfShapesThatMayNotBe(t *testing.T) {
	wrong := func(k, m int) {
		if c, err := code.New(k, m); c != nil || err != api.ErrShape {
			t.Errorf("New(%d, %d) = %v, %d", k, m, c, err)
		}
	}
	for k := -3; k <= 300; k++ {
		for m := -3; m <= 300; m++ {
			if m < 1 || m > k || k+m > 255 {
				wrong(k, m)
			}
		}
	}
	far := []int{
		math.MinInt, math.MinInt + 1, math.MinInt + 2, math.MinInt32, -256, -255, -1, 0,
		256, 257, 1 << 16, math.MaxInt32, math.MaxInt32 + 2, math.MaxUint32 + 1, math.MaxUint32 + 3,
		math.MaxInt/2 + 1, math.MaxInt - 1, math.MaxInt,
	}
	for _, a := range far {
		for _, b := range far {
			wrong(a, b)
		}
		for b := -1; b <= 256; b++ {
			wrong(a, b)
			if a != 0 || b != 0 {
				wrong(b, a)
			}
		}
	}
}

// P4.1: neither a nil code nor a zero value is one.
func TestNoCode(t *testing.T) {
	var zero code.Code
	for name, c := range map[string]*code.Code{"nil": nil, "zero": &zero, "new": new(code.Code)} {
		if rows := c.Matrix(); len(rows) != 0 {
			t.Errorf("%s: Matrix = %v", name, rows)
		}
		for _, rows := range [][][]byte{nil, {}, {nil}, {{1}}, {{1}, {2, 3}}, {nil, nil, nil}, {{1}, {2}, {3}}} {
			word, err := c.Encode(rows)
			wantFault(t, name+": Encode", word, err, api.ErrNil)
			word, err = c.Rebuild(rows)
			wantFault(t, name+": Rebuild", word, err, api.ErrNil)
			is, err := c.Check(rows)
			wantCheck(t, name+": Check", is, err, false, api.ErrNil)
			for _, at := range []int{-1, 0, 1} {
				word, err = c.Turn(rows, at, nil)
				wantFault(t, name+": Turn", word, err, api.ErrNil)
				word, err = c.Turn(rows, at, []byte{1})
				wantFault(t, name+": Turn", word, err, api.ErrNil)
			}
		}
	}
}

// P4.2
func TestMatrixOfTheExamples(t *testing.T) {
	c := mustNew(t, shape{2, 1})
	wantRows(t, "(2, 1) Matrix", c.Matrix(), api.OK, [][]byte{{1, 0}, {0, 1}, {3, 2}})
	c = mustNew(t, shape{1, 1})
	wantRows(t, "(1, 1) Matrix", c.Matrix(), api.OK, [][]byte{{1}, {1}})
}

// P4.2
func TestMatrixIsWhatRowsTakeOfTheData(t *testing.T) {
	for _, s := range append(small(), large()...) {
		rows := mustNew(t, s).Matrix()
		if len(rows) != s.n() {
			t.Fatalf("(%d, %d): %d rows", s.k, s.m, len(rows))
		}
		for i, row := range rows {
			if want := shares(upTo(s.k), i); string(row) != string(want) {
				t.Fatalf("(%d, %d): row %d is %v, not %v", s.k, s.m, i, row, want)
			}
		}
	}
}

// P4.2: its first K rows have a one at their own place and zeros beside it.
func TestMatrixBeginsWithTheData(t *testing.T) {
	for _, s := range append(small(), large()...) {
		for i, row := range mustNew(t, s).Matrix()[:s.k] {
			for j, b := range row {
				if (b == 1) != (i == j) || b > 1 {
					t.Fatalf("(%d, %d): %d at row %d, place %d", s.k, s.m, b, i, j)
				}
			}
		}
	}
}

// P4.2: the matrix makes of data the word, row by row.
func TestMatrixMakesWords(t *testing.T) {
	for _, s := range append(small(), shape{10, 4}, shape{20, 9}) {
		word := someWord(s, 5, 1)
		for i, row := range mustNew(t, s).Matrix() {
			sum := make([]byte, 5)
			for j, b := range row {
				for c := range sum {
					sum[c] ^= times(b, word[j][c])
				}
			}
			if string(sum) != string(word[i]) {
				t.Errorf("(%d, %d): row %d is %v, not %v", s.k, s.m, i, sum, word[i])
			}
		}
	}
}

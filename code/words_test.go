package code_test

import (
	"fmt"
	"testing"

	"cairn/api"
)

// P4.3
func TestEncodeOfTheExamples(t *testing.T) {
	c := mustNew(t, shape{2, 1})
	word, err := c.Encode([][]byte{{5, 1}, {7, 1}})
	wantRows(t, "Encode(5 1; 7 1)", word, err, [][]byte{{5, 1}, {7, 1}, {1, 1}})
	word, err = c.Encode([][]byte{{5, 1}})
	wantFault(t, "Encode(5 1)", word, err, api.ErrRows)
	word, err = c.Encode([][]byte{{5}, {7, 1}})
	wantFault(t, "Encode(5; 7 1)", word, err, api.ErrLengths)
	word, err = mustNew(t, shape{1, 1}).Encode([][]byte{{9}})
	wantRows(t, "(1, 1) Encode(9)", word, err, [][]byte{{9}, {9}})
}

// P4.3
func TestEncodeIsTheWordOfTheData(t *testing.T) {
	for _, s := range small() {
		c := mustNew(t, s)
		for length := range 20 {
			data := someRows(s.k, length, int64(length))
			word, err := c.Encode(data)
			wantRows(t, fmt.Sprintf("(%d, %d) Encode of %d bytes", s.k, s.m, length), word, err, wordThrough(s.n(), upTo(s.k), data))
		}
	}
	for _, s := range large() {
		data := someRows(s.k, 3, 1)
		word, err := mustNew(t, s).Encode(data)
		wantRows(t, fmt.Sprintf("(%d, %d) Encode", s.k, s.m), word, err, wordThrough(s.n(), upTo(s.k), data))
	}
}

// P4.3: a row may be longer than a matrix may be wide.
func TestEncodeOfLongRows(t *testing.T) {
	for _, length := range []int{255, 256, 257, 65536, 70001} {
		data := someRows(3, length, 1)
		word, err := mustNew(t, shape{3, 2}).Encode(data)
		wantRows(t, fmt.Sprintf("Encode of %d bytes", length), word, err, wordThrough(5, upTo(3), data))
	}
}

// P4.3
func TestEncodeOfRowsWithoutBytes(t *testing.T) {
	for _, s := range append(small(), shape{128, 127}) {
		for _, none := range [][]byte{nil, {}} {
			data := make([][]byte, s.k)
			data[s.k-1] = none
			word, err := mustNew(t, s).Encode(data)
			wantRows(t, fmt.Sprintf("(%d, %d) Encode", s.k, s.m), word, err, make([][]byte, s.n()))
		}
	}
}

// P4.3: too few or too many rows come ahead of unlike lengths; one row that is shorter, longer or empty, whichever it is, is told.
func TestEncodeOfWrongRows(t *testing.T) {
	for _, s := range small() {
		c := mustNew(t, s)
		for n := range s.n() + 3 {
			if n == s.k {
				continue
			}
			word, err := c.Encode(someRows(n, 2, 1))
			wantFault(t, fmt.Sprintf("(%d, %d) Encode of %d rows", s.k, s.m, n), word, err, api.ErrRows)
			if n > 1 {
				word, err = c.Encode(unlike(someRows(n, 2, 1), n-1, 3))
				wantFault(t, fmt.Sprintf("(%d, %d) Encode of %d unlike rows", s.k, s.m, n), word, err, api.ErrRows)
			}
		}
		for at := range s.k {
			for _, length := range []int{0, 1, 3} {
				if s.k == 1 {
					continue
				}
				word, err := c.Encode(unlike(someRows(s.k, 2, 1), at, length))
				wantFault(t, fmt.Sprintf("(%d, %d) Encode with %d bytes at %d", s.k, s.m, length, at), word, err, api.ErrLengths)
			}
		}
	}
}

// unlike is the rows with one of another length.
func unlike(rows [][]byte, at, length int) [][]byte {
	rows[at] = make([]byte, length)
	return rows
}

// P4.4
func TestRebuildOfTheExamples(t *testing.T) {
	c := mustNew(t, shape{2, 1})
	want := [][]byte{{5, 1}, {7, 1}, {1, 1}}
	word, err := c.Rebuild([][]byte{nil, {7, 1}, {1, 1}})
	wantRows(t, "Rebuild(lost; 7 1; 1 1)", word, err, want)
	word, err = c.Rebuild([][]byte{{5, 1}, {7, 1}, {9, 9}})
	wantRows(t, "Rebuild(5 1; 7 1; 9 9)", word, err, want)
	word, err = c.Rebuild([][]byte{nil, nil, {1, 1}})
	wantFault(t, "Rebuild(lost; lost; 1 1)", word, err, api.ErrFew)
	word, err = c.Rebuild([][]byte{{5}, {7, 1}, nil})
	wantFault(t, "Rebuild(5; 7 1; lost)", word, err, api.ErrLengths)
}

// P4.4: whatever rows there are, word or not: those at the K least places say the word, as many rows lost as may be; with one more there are too few.
func TestRebuildFromTheLeastPlaces(t *testing.T) {
	for _, s := range small() {
		c := mustNew(t, s)
		rows := someRows(s.n(), 3, int64(s.k))
		subsets(s.n(), func(lost []int) {
			what := fmt.Sprintf("(%d, %d) Rebuild without %v", s.k, s.m, lost)
			word, err := c.Rebuild(without(rows, lost))
			if len(lost) > s.m {
				wantFault(t, what, word, err, api.ErrFew)
				return
			}
			places := others(s.n(), lost)[:s.k]
			wantRows(t, what, word, err, wordThrough(s.n(), places, pick(rows, places)))
		})
	}
}

// P4.4
func TestRebuildOfLargeCodes(t *testing.T) {
	for _, s := range large() {
		c := mustNew(t, s)
		rows := someRows(s.n(), 2, 1)
		someSubsets(s.n(), s.m, func(lost []int) {
			places := others(s.n(), lost)
			word, err := c.Rebuild(without(rows, lost))
			wantRows(t, fmt.Sprintf("(%d, %d) Rebuild", s.k, s.m), word, err, wordThrough(s.n(), places, pick(rows, places)))
			word, err = c.Rebuild(without(rows, append(lost, places[s.k/2])))
			wantFault(t, fmt.Sprintf("(%d, %d) Rebuild without one more", s.k, s.m), word, err, api.ErrFew)
		})
	}
}

// P4.4: what stands at the other places is not looked at.
func TestRebuildLooksAtNoOtherPlaces(t *testing.T) {
	for _, s := range small() {
		c := mustNew(t, s)
		word := someWord(s, 4, 1)
		subsets(s.n(), func(lost []int) {
			if len(lost) > s.m {
				return
			}
			rows := clone(word)
			for _, p := range others(s.n(), lost)[s.k:] {
				rows[p] = []byte{1, 2, 3, byte(p)}
			}
			got, err := c.Rebuild(without(rows, lost))
			wantRows(t, fmt.Sprintf("(%d, %d) Rebuild without %v", s.k, s.m, lost), got, err, word)
		})
	}
}

// P4.4: but for their length.
func TestRebuildOfUnlikeLengths(t *testing.T) {
	for _, s := range small() {
		c := mustNew(t, s)
		for at := range s.n() {
			for _, length := range []int{1, 3} {
				got, err := c.Rebuild(unlike(someWord(s, 2, 1), at, length))
				wantFault(t, fmt.Sprintf("(%d, %d) Rebuild with %d bytes at %d", s.k, s.m, length, at), got, err, api.ErrLengths)
			}
		}
		rows := make([][]byte, s.n())
		rows[0], rows[s.n()-1] = []byte{1}, []byte{1, 2}
		got, err := c.Rebuild(rows)
		wantFault(t, "two rows of unlike lengths, and too few", got, err, api.ErrLengths)
	}
}

// P4.4
func TestRebuildOfWrongNumbersOfRows(t *testing.T) {
	for _, s := range small() {
		c := mustNew(t, s)
		for n := range s.n() + 3 {
			if n == s.n() {
				continue
			}
			got, err := c.Rebuild(someRows(n, 2, 1))
			wantFault(t, "rows", got, err, api.ErrRows)
			got, err = c.Rebuild(make([][]byte, n))
			wantFault(t, "lost rows", got, err, api.ErrRows)
			if n > 1 {
				got, err = c.Rebuild(unlike(someRows(n, 2, 1), n-1, 1))
				wantFault(t, "unlike rows", got, err, api.ErrRows)
			}
		}
	}
}

// P4.4
func TestRebuildOfLongRows(t *testing.T) {
	s := shape{3, 2}
	word := someWord(s, 66000, 1)
	subsets(s.n(), func(lost []int) {
		if len(lost) <= s.m {
			got, err := mustNew(t, s).Rebuild(without(word, lost))
			wantRows(t, "Rebuild", got, err, word)
		}
	})
}

// P4.5
func TestCheckOfTheExamples(t *testing.T) {
	c := mustNew(t, shape{2, 1})
	is, err := c.Check([][]byte{{5, 1}, {7, 1}, {1, 1}})
	wantCheck(t, "Check(5 1; 7 1; 1 1)", is, err, true, api.OK)
	is, err = c.Check([][]byte{{5, 1}, {7, 1}, {1, 2}})
	wantCheck(t, "Check(5 1; 7 1; 1 2)", is, err, false, api.OK)
	is, err = c.Check([][]byte{{5, 1}, {7, 1}, nil})
	wantCheck(t, "Check(5 1; 7 1; lost)", is, err, false, api.ErrLengths)
}

// P4.5: of words it is true; with any one byte another one, false.
func TestCheckOfWordsAndOthers(t *testing.T) {
	for _, s := range append(small(), shape{10, 4}) {
		c := mustNew(t, s)
		for length := 1; length <= 4; length++ {
			word := someWord(s, length, int64(length))
			is, err := c.Check(word)
			wantCheck(t, fmt.Sprintf("(%d, %d) Check of a word", s.k, s.m), is, err, true, api.OK)
			for i := range s.n() {
				for j := range length {
					rows := clone(word)
					rows[i][j] ^= byte(1 << (i % 8))
					is, err = c.Check(rows)
					wantCheck(t, fmt.Sprintf("(%d, %d) Check of a word spoilt at %d, %d", s.k, s.m, i, j), is, err, false, api.OK)
				}
			}
		}
	}
	for _, s := range large() {
		word := someWord(s, 2, 1)
		is, err := mustNew(t, s).Check(word)
		wantCheck(t, fmt.Sprintf("(%d, %d) Check of a word", s.k, s.m), is, err, true, api.OK)
		word[s.n()-1][1]++
		is, err = mustNew(t, s).Check(word)
		wantCheck(t, fmt.Sprintf("(%d, %d) Check of another", s.k, s.m), is, err, false, api.OK)
	}
}

// P4.5: of all columns of the code (2, 1) just those of words are.
func TestCheckOfEveryColumn(t *testing.T) {
	c := mustNew(t, shape{2, 1})
	for p := 0; p < 256; p += 5 {
		for q := 0; q < 256; q += 3 {
			word := wordThrough(3, upTo(2), [][]byte{{byte(p)}, {byte(q)}})
			for x := range 256 {
				is, err := c.Check([][]byte{{byte(p)}, {byte(q)}, {byte(x)}})
				if is != (word[2][0] == byte(x)) || err != api.OK {
					t.Fatalf("Check(%d; %d; %d) = %v, %d", p, q, x, is, err)
				}
			}
		}
	}
}

// P4.5: n rows without bytes are a word.
func TestCheckOfRowsWithoutBytes(t *testing.T) {
	for _, s := range small() {
		rows := make([][]byte, s.n())
		is, err := mustNew(t, s).Check(rows)
		wantCheck(t, "Check of nil rows", is, err, true, api.OK)
		rows[s.k] = []byte{}
		is, err = mustNew(t, s).Check(rows)
		wantCheck(t, "Check of nil and empty rows", is, err, true, api.OK)
	}
}

// P4.5
func TestCheckOfWrongRows(t *testing.T) {
	for _, s := range small() {
		c := mustNew(t, s)
		for n := range s.n() + 3 {
			if n == s.n() {
				continue
			}
			is, err := c.Check(someRows(n, 2, 1))
			wantCheck(t, "Check of another number of rows", is, err, false, api.ErrRows)
			is, err = c.Check(make([][]byte, n))
			wantCheck(t, "Check of another number of empty rows", is, err, false, api.ErrRows)
			if n > 1 {
				is, err = c.Check(unlike(someRows(n, 2, 1), n-1, 1))
				wantCheck(t, "Check of another number of unlike rows", is, err, false, api.ErrRows)
			}
		}
		for at := range s.n() {
			for _, length := range []int{0, 1, 3} {
				is, err := c.Check(unlike(someWord(s, 2, 1), at, length))
				wantCheck(t, "Check of unlike rows", is, err, false, api.ErrLengths)
			}
		}
	}
}

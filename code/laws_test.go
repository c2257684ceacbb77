package code_test

import (
	"fmt"
	"testing"

	"cairn/api"
	"cairn/code"
)

// mustEncode is the word of the data.
func mustEncode(t *testing.T, c *code.Code, data [][]byte) [][]byte {
	t.Helper()
	word, err := c.Encode(data)
	if err != api.OK {
		t.Fatalf("Encode of %d rows: %d", len(data), err)
	}
	return word
}

// mustBeWord asks Check.
func mustBeWord(t *testing.T, what string, c *code.Code, rows [][]byte) {
	t.Helper()
	if is, err := c.Check(rows); !is || err != api.OK {
		t.Fatalf("%s: Check = %v, %d", what, is, err)
	}
}

// P4.7
func TestAnyRowsLostComeBack(t *testing.T) {
	for _, s := range small() {
		c := mustNew(t, s)
		for _, length := range []int{1, 2, 5} {
			word := mustEncode(t, c, someRows(s.k, length, 7))
			subsets(s.n(), func(lost []int) {
				if len(lost) <= s.m {
					got, err := c.Rebuild(without(word, lost))
					wantRows(t, fmt.Sprintf("(%d, %d) without %v", s.k, s.m, lost), got, err, word)
				}
			})
		}
	}
	for _, s := range large() {
		c := mustNew(t, s)
		word := mustEncode(t, c, someRows(s.k, 2, 7))
		for _, size := range []int{0, 1, (s.m + 1) / 2, s.m} {
			someSubsets(s.n(), size, func(lost []int) {
				got, err := c.Rebuild(without(word, lost))
				wantRows(t, fmt.Sprintf("(%d, %d) without %v", s.k, s.m, lost), got, err, word)
			})
		}
	}
}

// unlikePlaces tells at how many places two words are unlike.
func unlikePlaces(a, b [][]byte) int {
	n := 0
	for i := range a {
		if string(a[i]) != string(b[i]) {
			n++
		}
	}
	return n
}

// P4.7: two unlike words part at M + 1 places at least; those whose data part in one row, at just so many.
func TestUnlikeWordsPart(t *testing.T) {
	for _, s := range append(small(), large()...) {
		c := mustNew(t, s)
		data := someRows(s.k, 1, 3)
		word := mustEncode(t, c, data)
		for seed := range int64(20) {
			other := mustEncode(t, c, someRows(s.k, 1, 100+seed))
			if n := unlikePlaces(word, other); n <= s.m && n > 0 {
				t.Fatalf("(%d, %d): two words are unlike at %d places", s.k, s.m, n)
			}
		}
		for _, at := range []int{0, s.k / 2, s.k - 1} {
			turned := clone(data)
			turned[at][0] ^= 129
			if n := unlikePlaces(word, mustEncode(t, c, turned)); n != s.m+1 {
				t.Fatalf("(%d, %d): unlike in one data row, and at %d places", s.k, s.m, n)
			}
		}
	}
}

// P4.7: all words of one byte a row, of the code (2, 2), part from the word of zeros, and so from each other.
func TestAllWordsPart(t *testing.T) {
	c := mustNew(t, shape{2, 2})
	zeros := make([][]byte, 4)
	for i := range zeros {
		zeros[i] = []byte{0}
	}
	for p := range 256 {
		for q := range 256 {
			word := mustEncode(t, c, [][]byte{{byte(p)}, {byte(q)}})
			if n := unlikePlaces(word, zeros); n < 3 && p+q > 0 {
				t.Fatalf("%v has zeros at %d places", word, 4-n)
			}
		}
	}
}

// P4.8
func TestFewerThanKSayNothing(t *testing.T) {
	for _, s := range small() {
		c := mustNew(t, s)
		subsets(s.n(), func(places []int) {
			if len(places) == s.k {
				standsIn(t, s, c, places, int64(s.n()))
			}
		})
	}
	for _, s := range large() {
		c := mustNew(t, s)
		someSubsets(s.n(), s.k, func(places []int) { standsIn(t, s, c, places, 5) })
	}
}

// standsIn asks of rows at K - 1 places, and of two unlike rows at the K-th place, for a word that has them all.
func standsIn(t *testing.T, s shape, c *code.Code, places []int, seed int64) {
	t.Helper()
	for _, change := range []byte{0, 1, 200} {
		rows := make([][]byte, s.n())
		for j, row := range someRows(s.k, 2, seed) {
			rows[places[j]] = row
		}
		rows[places[s.k/2]][1] ^= change
		word, err := c.Rebuild(rows)
		if err != api.OK {
			t.Fatalf("(%d, %d) from %v: %d", s.k, s.m, places, err)
		}
		mustBeWord(t, fmt.Sprintf("(%d, %d) from %v", s.k, s.m, places), c, word)
		if !same(pick(word, places), pick(rows, places)) {
			t.Fatalf("(%d, %d): the word from %v has other rows there", s.k, s.m, places)
		}
	}
}

// P4.9
func TestSumsAndScalingsOfWords(t *testing.T) {
	for _, s := range append(small(), large()...) {
		c := mustNew(t, s)
		a, b := mustEncode(t, c, someRows(s.k, 3, 1)), mustEncode(t, c, someRows(s.k, 3, 2))
		sum, scaled := clone(a), clone(a)
		for i := range a {
			for j := range a[i] {
				sum[i][j] = a[i][j] ^ b[i][j]
				scaled[i][j] = times(a[i][j], byte(77+s.k))
			}
		}
		what := fmt.Sprintf("(%d, %d)", s.k, s.m)
		mustBeWord(t, what+" sum", c, sum)
		mustBeWord(t, what+" scaled", c, scaled)
		wantRows(t, what+" word of the sum", mustEncode(t, c, sum[:s.k]), api.OK, sum)
		wantRows(t, what+" word of the scaled", mustEncode(t, c, scaled[:s.k]), api.OK, scaled)
	}
	c := mustNew(t, shape{3, 2})
	word := mustEncode(t, c, someRows(3, 1, 1))
	for by := range 256 {
		scaled := clone(word)
		for i := range scaled {
			scaled[i][0] = times(scaled[i][0], byte(by))
		}
		mustBeWord(t, fmt.Sprintf("scaled by %d", by), c, scaled)
	}
}

// P4.9
func TestTurnOfAWord(t *testing.T) {
	for _, s := range append(small(), large()...) {
		c := mustNew(t, s)
		data := someRows(s.k, 3, 1)
		word := mustEncode(t, c, data)
		for _, at := range []int{0, s.k / 2, s.k - 1} {
			row := someRows(1, 3, 100+int64(at))[0]
			got, err := c.Turn(word, at, row)
			changed := clone(data)
			changed[at] = row
			wantRows(t, fmt.Sprintf("(%d, %d) Turn at %d", s.k, s.m, at), got, err, mustEncode(t, c, changed))
			mustBeWord(t, "the turned word", c, got)
		}
	}
}

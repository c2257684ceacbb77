package code_test

import (
	"math/rand"
	"reflect"
	"testing"

	"cairn/api"
	"cairn/code"
)

// multiply is the product of two elements of the field, a bit of b at a time; nothing here goes through the layers below.
func multiply(a, b byte) byte {
	product, high := 0, int(a)
	for ; b > 0; b >>= 1 {
		if b&1 == 1 {
			product ^= high
		}
		high <<= 1
		if high > 255 {
			high ^= 285
		}
	}
	return byte(product)
}

// products are those of all pairs; inverses those of all elements but zero.
var products, inverses = tables()

func tables() (products [256][256]byte, inverses [256]byte) {
	for a := range 256 {
		for b := range 256 {
			products[a][b] = multiply(byte(a), byte(b))
			if products[a][b] == 1 {
				inverses[a] = byte(b)
			}
		}
	}
	return products, inverses
}

func times(a, b byte) byte { return products[a][b] }

// shares is what the value at the point x takes of the values at the points of the places: Lagrange's products.
func shares(places []int, x int) []byte {
	list := make([]byte, len(places))
	for j, p := range places {
		share := byte(1)
		for _, q := range places {
			if q != p {
				share = times(share, times(byte(x^q), inverses[p^q]))
			}
		}
		list[j] = share
	}
	return list
}

// wordThrough is n rows: in each column the values of the one polynomial that has those of the rows at the places.
func wordThrough(n int, places []int, rows [][]byte) [][]byte {
	word := make([][]byte, n)
	for x := range word {
		word[x] = make([]byte, len(rows[0]))
		for j, share := range shares(places, x) {
			for c, b := range rows[j] {
				word[x][c] ^= times(share, b)
			}
		}
	}
	return word
}

// shape is a code's two numbers.
type shape struct{ k, m int }

func (s shape) n() int { return s.k + s.m }

// small are the shapes of at most eight places.
func small() []shape {
	var list []shape
	for k := 1; k <= 7; k++ {
		for m := 1; m <= k && k+m <= 8; m++ {
			list = append(list, shape{k, m})
		}
	}
	return list
}

// large are some of many places, those of 255 among them.
func large() []shape {
	return []shape{{10, 4}, {16, 16}, {30, 1}, {64, 63}, {100, 3}, {128, 127}, {200, 55}, {254, 1}}
}

// mustNew is the code of a shape that may be.
func mustNew(t *testing.T, s shape) *code.Code {
	t.Helper()
	c, err := code.New(s.k, s.m)
	if c == nil || err != api.OK {
		t.Fatalf("New(%d, %d) = %v, %d", s.k, s.m, c, err)
	}
	return c
}

// someRows are rows of any bytes, the same ones for the same seed.
func someRows(n, length int, seed int64) [][]byte {
	r := rand.New(rand.NewSource(seed))
	rows := make([][]byte, n)
	for i := range rows {
		rows[i] = make([]byte, length)
		r.Read(rows[i])
	}
	return rows
}

// someWord is a word of the shape, by the reference.
func someWord(s shape, length int, seed int64) [][]byte {
	return wordThrough(s.n(), upTo(s.k), someRows(s.k, length, seed))
}

func upTo(n int) []int {
	list := make([]int, n)
	for i := range list {
		list[i] = i
	}
	return list
}

// subsets hands on every choice of places below n, rising.
func subsets(n int, do func(places []int)) {
	for mask := range 1 << n {
		var places []int
		for i := range n {
			if mask>>i&1 == 1 {
				places = append(places, i)
			}
		}
		do(places)
	}
}

// someSubsets hands on choices of that many places below n, rising: the first ones, the last ones, and some between.
func someSubsets(n, size int, do func(places []int)) {
	do(upTo(n)[:size])
	do(upTo(n)[n-size:])
	r := rand.New(rand.NewSource(int64(n*1000 + size)))
	for range 3 {
		in := make([]bool, n)
		for _, i := range r.Perm(n)[:size] {
			in[i] = true
		}
		var places []int
		for i, is := range in {
			if is {
				places = append(places, i)
			}
		}
		do(places)
	}
}

// without is the rows with those at the places lost, nil and empty by turns.
func without(rows [][]byte, places []int) [][]byte {
	left := append([][]byte(nil), rows...)
	for i, p := range places {
		left[p] = nil
		if i%2 == 1 {
			left[p] = []byte{}
		}
	}
	return left
}

// others are the places below n that are not among these.
func others(n int, places []int) []int {
	var list []int
	for i := range n {
		if !contains(places, i) {
			list = append(list, i)
		}
	}
	return list
}

func contains(places []int, i int) bool {
	for _, p := range places {
		if p == i {
			return true
		}
	}
	return false
}

// pick is the rows at the places.
func pick(rows [][]byte, places []int) [][]byte {
	var list [][]byte
	for _, p := range places {
		list = append(list, rows[p])
	}
	return list
}

// clone is the rows anew.
func clone(rows [][]byte) [][]byte {
	out := make([][]byte, len(rows))
	for i, row := range rows {
		out[i] = append([]byte(nil), row...)
	}
	return out
}

// same tells whether two lists of rows are alike; nil and empty rows are.
func same(a, b [][]byte) bool {
	if len(a) != len(b) {
		return false
	}
	for i := range a {
		if string(a[i]) != string(b[i]) {
			return false
		}
	}
	return true
}

// wantRows holds an answer of rows against what is asked.
func wantRows(t *testing.T, what string, got [][]byte, err api.Errno, want [][]byte) {
	t.Helper()
	if err != api.OK || !same(got, want) {
		if len(got)+len(want) > 40 {
			t.Fatalf("%s: %d rows, error %d", what, len(got), err)
		}
		t.Fatalf("%s = %v, %d, not %v", what, got, err, want)
	}
}

// wantFault holds an answer of rows against an error, beside which there is nothing.
func wantFault(t *testing.T, what string, got [][]byte, err, want api.Errno) {
	t.Helper()
	if err != want || len(got) != 0 {
		t.Errorf("%s = %v, %d, not error %d", what, got, err, want)
	}
}

// wantCheck holds a Check's answer against what is asked.
func wantCheck(t *testing.T, what string, is bool, err api.Errno, want bool, wantErr api.Errno) {
	t.Helper()
	if is != want || err != wantErr {
		t.Errorf("%s = %v, %d, not %v, %d", what, is, err, want, wantErr)
	}
}

// The reference holds itself against the chapter's own words: a + b x through p at 0 and q at 1.
func TestTheReference(t *testing.T) {
	for p := range 256 {
		for q := range 256 {
			word := wordThrough(3, []int{0, 1}, [][]byte{{byte(p)}, {byte(q)}})
			want := [][]byte{{byte(p)}, {byte(q)}, {byte(p) ^ times(byte(p^q), 2)}}
			if !reflect.DeepEqual(word, want) {
				t.Fatalf("%v, not %v", word, want)
			}
		}
	}
}

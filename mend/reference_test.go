package mend_test

import (
	"fmt"
	"math/rand"
	"slices"
	"testing"

	"cairn/api"
	"cairn/field"
	"cairn/mend"
)

type list = []field.Elem

// multiply is the product of two elements, a bit of b at a time; nothing here goes through the layers below.
func multiply(a, b int) field.Elem {
	product := 0
	for ; b > 0; b >>= 1 {
		if b&1 == 1 {
			product ^= a
		}
		a <<= 1
		if a > 255 {
			a ^= 285
		}
	}
	return field.Elem(product)
}

// products are those of all pairs; inverses those of all elements but zero.
var products, inverses = tables()

func tables() (products [256][256]field.Elem, inverses [256]field.Elem) {
	for a := range 256 {
		for b := range 256 {
			products[a][b] = multiply(a, b)
			if products[a][b] == 1 {
				inverses[a] = field.Elem(b)
			}
		}
	}
	return products, inverses
}

// shares is what the value at the point x takes of the values at the places: Lagrange's products.
func shares(places []int, x int) list {
	out := make(list, len(places))
	for j, p := range places {
		out[j] = 1
		for _, q := range places {
			if q != p {
				out[j] = products[out[j]][products[x^q][inverses[p^q]]]
			}
		}
	}
	return out
}

// through is the code word of n values that has the word's values at the places.
func through(n int, places []int, word list) list {
	out := make(list, n)
	for x := range out {
		for j, share := range shares(places, x) {
			out[x] ^= products[share][word[places[j]]]
		}
	}
	return out
}

// differences are the places, but for the lost ones, at which the two differ.
func differences(a, b list, lost []bool) []int {
	var places []int
	for i := range a {
		if !lost[i] && a[i] != b[i] {
			places = append(places, i)
		}
	}
	return places
}

// isNear tells whether a word with e wrong values and f lost ones may be put right, in the chapter's words.
func isNear(n, k, e, f int) bool { return 2*e+f <= n-k }

// nearest is the code word that is near and where the word is wrong, found by trying every k places that are there: of a word with a near code word some k are right.
func nearest(k int, word list, lost []bool) (near list, wrong []int, found bool) {
	n := len(word)
	there := places(lost, false)
	subsets(len(there), k, func(choice []int) bool {
		from := make([]int, k)
		for i, c := range choice {
			from[i] = there[c]
		}
		candidate := through(n, from, word)
		differ := differences(candidate, word, lost)
		if isNear(n, k, len(differ), n-len(there)) {
			near, wrong, found = candidate, differ, true
		}
		return !found
	})
	return near, wrong, found
}

// subsets hands on every choice of that many places below n, rising, as long as it is told to go on.
func subsets(n, size int, do func(places []int) bool) {
	for mask := range 1 << n {
		var places []int
		for i := range n {
			if mask>>i&1 == 1 {
				places = append(places, i)
			}
		}
		if len(places) == size && !do(places) {
			return
		}
	}
}

// places are those of which the list says so.
func places(of []bool, is bool) []int {
	var out []int
	for i := range of {
		if of[i] == is {
			out = append(out, i)
		}
	}
	return out
}

// marks is a list of n that says true at the places.
func marks(n int, places ...int) []bool {
	out := make([]bool, n)
	for _, i := range places {
		out[i] = true
	}
	return out
}

// source is any numbers, the same ones for the same seed.
func source(seed int) *rand.Rand { return rand.New(rand.NewSource(int64(seed))) }

// someWord is n values of any kind.
func someWord(r *rand.Rand, n int) list {
	word := make(list, n)
	for i := range word {
		word[i] = field.Elem(r.Intn(256))
	}
	return word
}

// codeWord is the values of the polynomial at n points.
func codeWord(n int, polynomial list) list {
	word := make(list, n)
	for x := range word {
		for i := range polynomial {
			word[x] = products[word[x]][x] ^ polynomial[len(polynomial)-1-i]
		}
	}
	return word
}

// someCodeWord is a code word for k.
func someCodeWord(r *rand.Rand, n, k int) list { return codeWord(n, someWord(r, k)) }

// changed is the word with other values at the places.
func changed(r *rand.Rand, word list, places []int) list {
	out := slices.Clone(word)
	for _, i := range places {
		out[i] ^= field.Elem(1 + r.Intn(255))
	}
	return out
}

// rising is a choice of that many places below n, in their order.
func rising(r *rand.Rand, n, size int) []int {
	out := r.Perm(n)[:size]
	slices.Sort(out)
	return out
}

// wantColumn holds what Column answers against what is asked.
func wantColumn(t *testing.T, k int, word list, lost []bool, want list, wrong []int, err api.Errno) {
	t.Helper()
	got, gotWrong, gotErr := mend.Column(k, word, lost)
	if gotErr != err || !slices.Equal(got, want) || !slices.Equal(gotWrong, wrong) {
		t.Fatalf("Column(%d, %v, lost %v) = %v, %v, %d, not %v, %v, %d", k, word, places(lost, true), got, gotWrong, gotErr, want, wrong, err)
	}
}

// wantAsReference holds what Column answers against the reference.
func wantAsReference(t *testing.T, k int, word list, lost []bool) {
	t.Helper()
	if len(places(lost, false)) < k {
		wantColumn(t, k, word, lost, nil, nil, api.ErrFew)
		return
	}
	near, wrong, found := nearest(k, word, lost)
	if !found {
		wantColumn(t, k, word, lost, nil, nil, api.ErrWrong)
		return
	}
	wantColumn(t, k, word, lost, near, wrong, api.OK)
}

// wantMend holds what Mend answers against what is asked; nil and empty rows are the same.
func wantMend(t *testing.T, what string, k int, rows, want [][]byte, wrong []int, err api.Errno) {
	t.Helper()
	got, gotWrong, gotErr := mend.Mend(k, rows)
	if gotErr != err || !sameRows(got, want) || !slices.Equal(gotWrong, wrong) {
		told := fmt.Sprint(rows, " = ", got, gotWrong, gotErr, ", not ", want, wrong, err)
		t.Fatalf("%s: Mend(%d, %.2000s)", what, k, told)
	}
}

func sameRows(a, b [][]byte) bool { return slices.EqualFunc(a, b, slices.Equal[[]byte]) }

// texts is rows made of texts.
func texts(all ...string) [][]byte {
	var rows [][]byte
	for _, text := range all {
		rows = append(rows, []byte(text))
	}
	return rows
}

// byColumns is the rows whose columns are the words; those of the lost places have no bytes.
func byColumns(lost []bool, words ...list) [][]byte {
	rows := make([][]byte, len(lost))
	for i := range rows {
		for _, word := range words {
			if !lost[i] {
				rows[i] = append(rows[i], byte(word[i]))
			}
		}
	}
	return rows
}

// The reference's two ways to a code word are held against each other, with the lines through two values.
func TestTheReference(t *testing.T) {
	for a := range 256 {
		for b := range 256 {
			want := list{field.Elem(a), field.Elem(a ^ b), field.Elem(a) ^ products[b][2], field.Elem(a) ^ products[b][3]}
			if got := codeWord(4, list{field.Elem(a), field.Elem(b)}); !slices.Equal(got, want) {
				t.Fatalf("%v, not %v", got, want)
			}
			for _, from := range [][]int{{0, 1}, {1, 3}, {2, 3}} {
				if got := through(4, from, want); !slices.Equal(got, want) {
					t.Fatalf("%v through %v, not %v", got, from, want)
				}
			}
		}
	}
}

package matrix_test

import (
	"fmt"
	"testing"

	"cairn/api"
	"cairn/matrix"
)

// P3.8
func TestProductsMayBeGrouped(t *testing.T) {
	grouped(t, elems())
	grouped(t, bits())
	grouped(t, looses())
	grouped(t, fars())
}

func grouped[T matrix.Number[T]](t *testing.T, k kind[T]) {
	need := needMatrix[T](t)
	sizes := []int{1, 2, 3, 8}
	for _, p := range sizes {
		for _, q := range sizes {
			for _, r := range sizes {
				a, b, c := k.some(p, q, 1, 1), k.some(q, r, 1, 2), k.some(r, p+q, 1, 3)
				left := need(matrix.Times(need(matrix.Times(a, b)), c))
				right := need(matrix.Times(a, need(matrix.Times(b, c))))
				if !same(left, right) {
					t.Errorf("%s: %v, %v, %v grouped: %v and %v", k.name, a, b, c, left, right)
				}
			}
		}
	}
	for _, rows := range []int{0, 1, 2, 5, 255} {
		for _, cols := range []int{0, 1, 3, 255} {
			if rows == 0 && cols > 0 {
				continue
			}
			a := k.some(rows, cols, 1, 4)
			behind := need(matrix.Times(a, need(matrix.Identity(cols, k.one))))
			ahead := need(matrix.Times(need(matrix.Identity(rows, k.one)), a))
			if !same(behind, a) || !same(ahead, a) {
				t.Errorf("%s: the identity changes %d rows of %d", k.name, rows, cols)
			}
		}
	}
}

// P3.9
func TestInverseAndRankAndSolveAgree(t *testing.T) {
	agree(t, elems())
	agree(t, bits())
	agree(t, looses())
	agree(t, fars())
}

func agree[T matrix.Number[T]](t *testing.T, k kind[T]) {
	need := needMatrix[T](t)
	singular, regular := 0, 0
	for seed := range 40 {
		n := seed % 10
		a, b := k.some(n, n, seed%6, seed), k.list(n, seed)
		rank, _ := matrix.Rank(a)
		inverse, err := matrix.Inverse(a)
		x, solveErr := matrix.Solve(a, b)
		if err != solveErr || (err == api.OK) != (rank == n) {
			t.Fatalf("%s: rank %d of %d, Inverse %d, Solve %d", k.name, rank, n, err, solveErr)
		}
		if err != api.OK {
			singular++
			continue
		}
		regular++
		if again := need(matrix.Inverse(inverse)); !same(again, a) {
			t.Errorf("%s: the inverse of %v's inverse is %v", k.name, a, again)
		}
		if n > 0 && !same(need(matrix.Times(inverse, column(b))), column(x)) {
			t.Errorf("%s: Solve(%v, %v) = %v", k.name, a, b, x)
		}
	}
	if singular == 0 || regular == 0 {
		t.Errorf("%s: %d without an inverse, %d with one", k.name, singular, regular)
	}
}

func column[T any](b []T) [][]T {
	var a [][]T
	for _, number := range b {
		a = append(a, []T{number})
	}
	return a
}

// P3.10: all choices of rows where these are few.
func TestRowsOfPowersHaveInverses(t *testing.T) {
	allChoices(t, bits(), 2)
	allChoices(t, looses(), 4)
	allChoices(t, elems(), 7)
	allChoices(t, fars(), 6)
}

func allChoices[T matrix.Number[T]](t *testing.T, k kind[T], n int) {
	points := k.unlike(n)
	for cols := range n + 1 {
		powers, _ := matrix.Powers(points, cols, k.one)
		for _, choice := range choices(n, cols) {
			var at []int
			for i := range n {
				if choice>>i&1 == 1 {
					at = append([]int{i}, at...)
				}
			}
			wantRegular(t, k, powers, at)
		}
	}
}

func wantRegular[T matrix.Number[T]](t *testing.T, k kind[T], powers [][]T, at []int) {
	t.Helper()
	need := needMatrix[T](t)
	square := need(matrix.Rows(powers, at))
	inverse, err := matrix.Inverse(square)
	identity := need(matrix.Identity(len(at), k.one))
	if err != api.OK || !same(need(matrix.Times(square, inverse)), identity) {
		t.Errorf("%s: the rows %v of the powers: error %d", k.name, at, err)
	}
	wantRank(t, fmt.Sprint(k.name, " rows ", at), square, len(at), api.OK)
}

// P3.10: at the limit, and some choices of rows drawn by lot.
func TestRowsOfManyPowersHaveInverses(t *testing.T) {
	k := elems()
	points := k.unlike(256)[1:]
	d := draw(11)
	for _, cols := range []int{1, 10, 60, 254, 255} {
		powers, _ := matrix.Powers(points, cols, k.one)
		at := upTo(255)
		for i := range at {
			j := i + d.next(255-i)
			at[i], at[j] = at[j], at[i]
		}
		wantRegular(t, k, powers, at[:cols])
	}
}

// odd breaks the laws of a field in the way that its bits say. Of such types it is promised that the calls end.
type odd uint8

func (a odd) Plus(b odd) odd       { return a }
func (a odd) Times(b odd) odd      { return b + 1 }
func (a odd) Inverse() (odd, bool) { return a + 1, a&1 != 0 }
func (a odd) IsZero() bool         { return a&2 != 0 }

// W0
func TestCallsEndForOtherTypes(t *testing.T) {
	for seed := range 60 {
		d := draw(seed)
		a := make([][]odd, seed%6)
		for i := range a {
			a[i] = make([]odd, len(a))
			for j := range a[i] {
				a[i][j] = odd(d.next(256))
			}
		}
		list := make([]odd, len(a))
		matrix.Times(a, a)
		matrix.Rank(a)
		matrix.Inverse(a)
		matrix.Solve(a, list)
		matrix.Powers(list, seed, 3)
	}
}

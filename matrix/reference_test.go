package matrix_test

import (
	"testing"

	"cairn/api"
	"cairn/matrix"
)

// The plain ways: products as they are written down, determinants by their first rows, ranks and inverses by determinants. In fields where a thing and itself make zero no sign is needed.

func plainTimes[T matrix.Number[T]](a, b [][]T, cols int) [][]T {
	var product [][]T
	for i := range a {
		var row []T
		for j := range cols {
			var sum T
			for t := range b {
				sum = sum.Plus(a[i][t].Times(b[t][j]))
			}
			row = append(row, sum)
		}
		product = append(product, row)
	}
	return product
}

// without is a but for one row and one column.
func without[T any](a [][]T, row, col int) [][]T {
	var out [][]T
	for i := range a {
		if i == row {
			continue
		}
		var left []T
		for j, number := range a[i] {
			if j != col {
				left = append(left, number)
			}
		}
		out = append(out, left)
	}
	return out
}

func determinant[T matrix.Number[T]](a [][]T, one T) T {
	if len(a) == 0 {
		return one
	}
	var sum T
	for j, number := range a[0] {
		sum = sum.Plus(number.Times(determinant(without(a, 0, j), one)))
	}
	return sum
}

// choices are all ways to take some of n things, as bits.
func choices(n, some int) []int {
	var out []int
	for c := range 1 << n {
		count := 0
		for i := range n {
			count += c >> i & 1
		}
		if count == some {
			out = append(out, c)
		}
	}
	return out
}

func minor[T any](a [][]T, rows, cols int) [][]T {
	var out [][]T
	for i := range a {
		if rows>>i&1 == 0 {
			continue
		}
		var row []T
		for j, number := range a[i] {
			if cols>>j&1 == 1 {
				row = append(row, number)
			}
		}
		out = append(out, row)
	}
	return out
}

// plainRank is the size of the greatest square within a whose determinant is not zero.
func plainRank[T matrix.Number[T]](a [][]T, cols int, one T) int {
	for size := min(len(a), cols); size > 0; size-- {
		for _, r := range choices(len(a), size) {
			for _, c := range choices(cols, size) {
				if !determinant(minor(a, r, c), one).IsZero() {
					return size
				}
			}
		}
	}
	return 0
}

func plainInverse[T matrix.Number[T]](a [][]T, one T) ([][]T, bool) {
	over, ok := determinant(a, one).Inverse()
	if !ok {
		return nil, false
	}
	var inverse [][]T
	for i := range a {
		var row []T
		for j := range a {
			row = append(row, determinant(without(a, j, i), one).Times(over))
		}
		inverse = append(inverse, row)
	}
	return inverse, true
}

func plainSolve[T matrix.Number[T]](a [][]T, b []T, one T) ([]T, bool) {
	over, ok := determinant(a, one).Inverse()
	if !ok {
		return nil, false
	}
	var x []T
	for t := range a {
		swapped := deepCopy(a)
		for i := range swapped {
			swapped[i][t] = b[i]
		}
		x = append(x, determinant(swapped, one).Times(over))
	}
	return x, true
}

func deepCopy[T any](a [][]T) [][]T {
	out := make([][]T, len(a))
	for i := range a {
		out[i] = append([]T(nil), a[i]...)
	}
	return out
}

func sameRow[T matrix.Number[T]](a, b []T) bool {
	if len(a) != len(b) {
		return false
	}
	for i := range a {
		if !a[i].Plus(b[i]).IsZero() {
			return false
		}
	}
	return true
}

func same[T matrix.Number[T]](a, b [][]T) bool {
	if len(a) != len(b) {
		return false
	}
	for i := range a {
		if !sameRow(a[i], b[i]) {
			return false
		}
	}
	return true
}

// wantMatrix holds an answer against the one that is due; beside an error that is nil.
func wantMatrix[T matrix.Number[T]](t *testing.T, what string, got [][]T, err api.Errno, want [][]T, wantErr api.Errno) {
	t.Helper()
	if err != wantErr || !same(got, want) || wantErr != api.OK && got != nil {
		t.Errorf("%s = %v, %d; want %v, %d", what, got, err, want, wantErr)
	}
}

func wantList[T matrix.Number[T]](t *testing.T, what string, got []T, err api.Errno, want []T, wantErr api.Errno) {
	t.Helper()
	if err != wantErr || !sameRow(got, want) || wantErr != api.OK && got != nil {
		t.Errorf("%s = %v, %d; want %v, %d", what, got, err, want, wantErr)
	}
}

// needMatrix is the answer of a call that must have no error.
func needMatrix[T any](t *testing.T) func([][]T, api.Errno) [][]T {
	return func(a [][]T, err api.Errno) [][]T {
		t.Helper()
		if err != api.OK {
			t.Fatalf("error %d", err)
		}
		return a
	}
}

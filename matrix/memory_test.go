package matrix_test

import (
	"fmt"
	"reflect"
	"testing"

	"cairn/matrix"
)

// calls are all that are handed matrices or answer them; a Solve's list counts as a matrix of one row.
func calls[T matrix.Number[T]](k kind[T]) map[string]func(a, b [][]T) [][]T {
	return map[string]func(a, b [][]T) [][]T{
		"Identity": func(a, b [][]T) [][]T { return first(matrix.Identity(len(a), k.one)) },
		"Powers":   func(a, b [][]T) [][]T { return first(matrix.Powers(rowOf(a), 3, k.one)) },
		"Powers 1": func(a, b [][]T) [][]T { return first(matrix.Powers(rowOf(a), 1, k.one)) },
		"Powers 0": func(a, b [][]T) [][]T { return first(matrix.Powers(rowOf(a), 0, k.one)) },
		"Times":    func(a, b [][]T) [][]T { return first(matrix.Times(a, b)) },
		"Times a":  func(a, b [][]T) [][]T { return first(matrix.Times(a, a)) },
		"Times 1": func(a, b [][]T) [][]T {
			one, _ := matrix.Identity(len(a), k.one)
			return first(matrix.Times(one, a))
		},
		"Rank":       func(a, b [][]T) [][]T { matrix.Rank(a); return nil },
		"Inverse":    func(a, b [][]T) [][]T { return first(matrix.Inverse(a)) },
		"Solve":      func(a, b [][]T) [][]T { return [][]T{first(matrix.Solve(a, rowOf(b)))} },
		"Solve a":    func(a, b [][]T) [][]T { return [][]T{first(matrix.Solve(a, rowOf(a)))} },
		"Rows":       func(a, b [][]T) [][]T { return first(matrix.Rows(a, upTo(len(a)))) },
		"Rows twice": func(a, b [][]T) [][]T { return first(matrix.Rows(a, make([]int, 3))) },
		"Rows none":  func(a, b [][]T) [][]T { return first(matrix.Rows(a, nil)) },
	}
}

func first[A, E any](a A, _ E) A { return a }

func rowOf[T any](a [][]T) []T {
	if len(a) == 0 {
		return nil
	}
	return a[0]
}

// samples are pairs of matrices: with and without inverses, of sizes that fit and that don't, with faults.
func samples[T matrix.Number[T]](k kind[T]) [][2][][]T {
	identity, _ := matrix.Identity(4, k.one)
	twice := k.some(4, 4, 1, 1)
	twice[2] = twice[0]
	ragged := k.some(3, 3, 1, 1)
	ragged[1] = ragged[1][:2]
	return [][2][][]T{
		{k.crossed(5), k.some(5, 5, 0, 1)},
		{k.crossed(2), k.crossed(2)},
		{identity, k.some(4, 4, 0, 2)},
		{k.some(1, 1, 0, 3), k.some(1, 1, 0, 4)},
		{twice, twice},
		{zeros[T](3, 3), k.some(3, 2, 0, 5)},
		{k.some(2, 4, 0, 5), k.some(4, 3, 0, 6)},
		{k.some(2, 4, 0, 5), k.some(3, 3, 0, 6)},
		{ragged, k.crossed(3)},
		{k.crossed(3), ragged},
		{k.some(256, 1, 0, 1), nil},
		{zeros[T](3, 0), nil},
		{nil, nil},
		{k.crossed(20), k.some(20, 1, 0, 1)},
	}
}

// roomy is a matrix whose rows, and whose list of rows, have their owner's things behind them; and all of it, room too.
func roomy[T matrix.Number[T]](k kind[T], a [][]T) (roomy, whole [][]T) {
	for _, row := range a {
		row = append(append([]T(nil), row...), k.of(11), k.of(7), k.one)
		whole = append(whole, row[:len(row)-3])
	}
	n := len(whole)
	whole = append(whole, k.list(4, 3), k.list(5, 4))
	return whole[:n], whole
}

// everything is a matrix with the room behind each of its rows, as it is now.
func everything[T any](whole [][]T) [][]T {
	var out [][]T
	for _, row := range whole {
		out = append(out, append([]T(nil), row[:cap(row)]...))
	}
	return out
}

// fill overwrites an answer: its rows and the room behind them, and its list of rows and the room behind that.
func fill[T any](a [][]T, with T) {
	for _, row := range a {
		row = row[:cap(row)]
		for j := range row {
			row[j] = with
		}
	}
	a = a[:cap(a)]
	for i := range a {
		a[i] = nil
	}
}

// P3.11
func TestMatricesHandedInStayAsTheyWere(t *testing.T) {
	stay(t, elems())
	stay(t, bits())
	stay(t, looses())
	stay(t, fars())
}

func stay[T matrix.Number[T]](t *testing.T, k kind[T]) {
	for name, call := range calls(k) {
		for i, pair := range samples(k) {
			a, wholeA := roomy(k, pair[0])
			b, wholeB := roomy(k, pair[1])
			beforeA, beforeB := everything(wholeA), everything(wholeB)
			headsA, headsB := heads(wholeA), heads(wholeB)
			fill(call(a, b), k.of(0))
			fill(call(a, b), k.of(171))
			if !reflect.DeepEqual(everything(wholeA), beforeA) || !reflect.DeepEqual(everything(wholeB), beforeB) {
				t.Errorf("%s: %s changed or kept what it was handed, sample %d", k.name, name, i)
			}
			if !reflect.DeepEqual(heads(wholeA), headsA) || !reflect.DeepEqual(heads(wholeB), headsB) {
				t.Errorf("%s: %s changed a list of rows, sample %d", k.name, name, i)
			}
		}
	}
}

// heads tells where each row begins, and how long it is.
func heads[T any](a [][]T) []string {
	var out []string
	for _, row := range a {
		out = append(out, fmt.Sprintf("%p %d %d", row, len(row), cap(row)))
	}
	return out
}

// P3.11: what is overwritten in one row is seen in no other, nor in an answer of another call.
func TestAnsweredRowsShareNoMemory(t *testing.T) {
	apart(t, elems())
	apart(t, bits())
	apart(t, looses())
	apart(t, fars())
}

func apart[T matrix.Number[T]](t *testing.T, k kind[T]) {
	for name, call := range calls(k) {
		for i, pair := range samples(k) {
			earlier := call(pair[0], pair[1])
			answer := call(pair[0], pair[1])
			before := everything(earlier)
			for n := range answer {
				others := append(append([][]T(nil), answer[:n]...), answer[n+1:]...)
				then := everything(others)
				for _, with := range []T{k.of(0), k.of(171)} { // one of them is another number than stands there
					fill([][]T{answer[n]}, with)
					if !reflect.DeepEqual(everything(others), then) {
						t.Errorf("%s: row %d of %s shares memory, sample %d", k.name, n, name, i)
					}
				}
			}
			fill(answer, k.of(172)) // the list of rows too
			if !reflect.DeepEqual(everything(earlier), before) {
				t.Errorf("%s: two answers of %s share memory, sample %d", k.name, name, i)
			}
		}
	}
}

// P3.11: the list of places stays as it was too.
func TestPlacesStayAsTheyWere(t *testing.T) {
	whole := []int{2, 0, 2, 1, 77, 78}
	matrix.Rows(elems().some(3, 2, 0, 1), whole[:4])
	matrix.Rows(elems().some(2, 2, 0, 1), whole[:4])
	if !reflect.DeepEqual(whole, []int{2, 0, 2, 1, 77, 78}) {
		t.Errorf("the places are %v", whole)
	}
}

// P3.11: nothing is kept: a matrix that its owner changes behind a call is read anew by the next one.
func TestNothingIsKept(t *testing.T) {
	a := elemMatrix{{1, 1}, {1, 2}}
	inverse, _ := matrix.Inverse(a)
	product, _ := matrix.Times(a, a)
	rows, _ := matrix.Rows(a, []int{1})
	a[0][0], a[1][1] = 0, 0
	wantMatrix(t, "the inverse", inverse, 0, elemMatrix{{245, 244}, {244, 244}}, 0)
	wantMatrix(t, "the product", product, 0, elemMatrix{{0, 3}, {3, 5}}, 0)
	wantMatrix(t, "the rows", rows, 0, elemMatrix{{1, 2}}, 0)
	again, err := matrix.Inverse(a)
	wantMatrix(t, "the inverse of what it is now", again, err, elemMatrix{{0, 1}, {1, 0}}, 0)
}

package matrix_test

import (
	"fmt"
	"testing"

	"cairn/api"
	"cairn/field"
	"cairn/matrix"
)

// everySmall hands out all matrices of that many rows and columns, of numbers with seeds below values.
func everySmall[T matrix.Number[T]](k kind[T], rows, cols, values int, do func(a [][]T)) {
	total := 1
	for range rows * cols {
		total *= values
	}
	for n := range total {
		a, rest := zeros[T](rows, cols), n
		for i := range a {
			for j := range a[i] {
				a[i][j] = k.of(rest % values)
				rest /= values
			}
		}
		do(a)
	}
}

func wantRank[T matrix.Number[T]](t *testing.T, what string, a [][]T, want int, wantErr api.Errno) {
	t.Helper()
	if got, err := matrix.Rank(a); got != want || err != wantErr {
		t.Errorf("%s: Rank(%v) = %d, %d; want %d, %d", what, a, got, err, want, wantErr)
	}
}

// P3.5
func TestRank(t *testing.T) {
	for _, x := range []struct {
		a    elemMatrix
		want int
	}{
		{elemMatrix{{1, 1}, {1, 1}}, 1},
		{elemMatrix{{0, 0}}, 0},
		{nil, 0},
		{elemMatrix{}, 0},
		{elemMatrix{nil, {}}, 0},
		{elemMatrix{{1, 2}, {2, 4}}, 1},
		{elemMatrix{{1, 2}, {2, 5}}, 2},
		{elemMatrix{{0, 1}, {1, 0}}, 2},
		{elemMatrix{{0, 0, 1}, {0, 1, 1}, {0, 1, 0}}, 2},
		{elemMatrix{{0, 0, 0, 5}}, 1},
		{elemMatrix{{0}, {0}, {9}}, 1},
		{elemMatrix{{1, 2, 3}, {4, 5, 6}}, 2},
		{elemMatrix{{1, 2}, {3, 4}, {5, 6}}, 2},
	} {
		wantRank(t, "Elem", x.a, x.want, api.OK)
	}
}

// P3.5, P3.6: against determinants, of all small matrices.
func TestRankAndInverseOfAllSmall(t *testing.T) {
	for rows := range 4 {
		for cols := range 4 {
			ranksOfAll(t, bits(), rows, cols, 2)
		}
	}
	ranksOfAll(t, bits(), 2, 5, 2)
	ranksOfAll(t, bits(), 5, 2, 2)
	ranksOfAll(t, looses(), 2, 2, 4)
	ranksOfAll(t, looses(), 2, 3, 4)
	ranksOfAll(t, looses(), 3, 2, 4)
	ranksOfAll(t, elems(), 2, 2, 9)
	ranksOfAll(t, elems(), 1, 1, 256)
	inversesOfAll(t, bits(), 1, 2)
	inversesOfAll(t, bits(), 2, 2)
	inversesOfAll(t, bits(), 3, 2)
	inversesOfAll(t, looses(), 1, 4)
	inversesOfAll(t, looses(), 2, 4)
	inversesOfAll(t, elems(), 1, 256)
	inversesOfAll(t, elems(), 2, 9)
}

func ranksOfAll[T matrix.Number[T]](t *testing.T, k kind[T], rows, cols, values int) {
	everySmall(k, rows, cols, values, func(a [][]T) {
		wantRank(t, k.name, a, plainRank(a, cols, k.one), api.OK)
	})
}

func inversesOfAll[T matrix.Number[T]](t *testing.T, k kind[T], n, values int) {
	everySmall(k, n, n, values, func(a [][]T) {
		wantInverseAndSolve(t, k, a, k.list(n, values))
	})
}

// wantInverseAndSolve holds both against determinants.
func wantInverseAndSolve[T matrix.Number[T]](t *testing.T, k kind[T], a [][]T, b []T) {
	t.Helper()
	var wantErr api.Errno
	want, ok := plainInverse(a, k.one)
	if !ok {
		wantErr = api.ErrSingular
	}
	got, err := matrix.Inverse(a)
	wantMatrix(t, fmt.Sprint(k.name, " Inverse ", a), got, err, want, wantErr)
	x, _ := plainSolve(a, b, k.one)
	y, err := matrix.Solve(a, b)
	wantList(t, fmt.Sprint(k.name, " Solve ", a, b), y, err, x, wantErr)
}

// P3.5, P3.6, P3.7: against determinants, of matrices drawn by lot, with few and with many zeros.
func TestStepsOfDrawnMatrices(t *testing.T) {
	drawnSteps(t, elems())
	drawnSteps(t, bits())
	drawnSteps(t, looses())
	drawnSteps(t, fars())
}

func drawnSteps[T matrix.Number[T]](t *testing.T, k kind[T]) {
	for seed := range 12 {
		for n := range 6 {
			wantInverseAndSolve(t, k, k.some(n, n, seed%7, seed), k.list(n, seed))
		}
		for rows := range 5 {
			for cols := range 5 {
				a := k.some(rows, cols, seed%7, seed)
				wantRank(t, k.name, a, plainRank(a, cols, k.one), api.OK)
			}
		}
	}
}

// P3.5: rows that are sums of multiples of a few have no greater a rank, however many they are.
func TestRankOfSums(t *testing.T) {
	ranksOfSums(t, elems())
	ranksOfSums(t, bits())
	ranksOfSums(t, looses())
}

func ranksOfSums[T matrix.Number[T]](t *testing.T, k kind[T]) {
	need := needMatrix[T](t)
	for _, rank := range []int{1, 3, 30, 100} {
		few := k.some(rank, 120, 1, rank)
		for i := range few {
			clear(few[i][:i])
			few[i][i] = k.one
		}
		identity := need(matrix.Identity(rank, k.one))
		many := need(matrix.Times(append(k.some(100, rank, 2, 1), identity...), few))
		wantRank(t, fmt.Sprint(k.name, " sums of ", rank), many, rank, api.OK)
	}
	full, _ := matrix.Identity(255, k.one)
	wantRank(t, k.name+" identity", full, 255, api.OK)
	wantRank(t, k.name+" zeros", zeros[T](255, 255), 0, api.OK)
	full[100] = full[200]
	wantRank(t, k.name+" a row twice", full, 254, api.OK)
}

func upTo(n int) []int {
	var at []int
	for i := range n {
		at = append(at, i)
	}
	return at
}

// P3.6
func TestInverse(t *testing.T) {
	for _, x := range []struct {
		a, want elemMatrix
		err     api.Errno
	}{
		{elemMatrix{{2}}, elemMatrix{{142}}, api.OK},
		{elemMatrix{{0}}, nil, api.ErrSingular},
		{elemMatrix{{1, 2}}, nil, api.ErrSizes},
		{elemMatrix{{1}, {2}}, nil, api.ErrSizes},
		{elemMatrix{nil}, nil, api.ErrSizes},
		{elemMatrix{{0, 0}}, nil, api.ErrSizes},
		{nil, nil, api.OK},
		{elemMatrix{}, nil, api.OK},
		{elemMatrix{{1, 1}, {1, 2}}, elemMatrix{{245, 244}, {244, 244}}, api.OK},
		{elemMatrix{{0, 1}, {1, 0}}, elemMatrix{{0, 1}, {1, 0}}, api.OK},
		{elemMatrix{{0, 2}, {3, 0}}, elemMatrix{{0, 244}, {142, 0}}, api.OK},
		{elemMatrix{{0, 0, 1}, {1, 0, 0}, {0, 1, 0}}, elemMatrix{{0, 1, 0}, {0, 0, 1}, {1, 0, 0}}, api.OK},
		{elemMatrix{{1, 2}, {2, 4}}, nil, api.ErrSingular},
		{elemMatrix{{1, 1}, {1, 1}}, nil, api.ErrSingular},
		{elemMatrix{{0, 1}, {0, 1}}, nil, api.ErrSingular},
		{elemMatrix{{1, 0}, {1, 0}}, nil, api.ErrSingular},
		{elemMatrix{{1, 2}, {0, 0}}, nil, api.ErrSingular},
	} {
		got, err := matrix.Inverse(x.a)
		wantMatrix(t, fmt.Sprint("Inverse ", x.a), got, err, x.want, x.err)
	}
	upper := [][]field.Bit{{true, true}, {false, true}}
	got, err := matrix.Inverse(upper)
	wantMatrix(t, "Inverse of bits", got, err, upper, api.OK)
}

// P3.6: at the limit the products are the identity on both sides.
func TestInverseOfGreatMatrices(t *testing.T) {
	inverseOfGreat(t, elems(), 255)
	inverseOfGreat(t, bits(), 255)
	inverseOfGreat(t, looses(), 255)
	inverseOfGreat(t, fars(), 40)
}

// crossed has an inverse, but no column has its number where the row's is: zeros below a line, and the rows turned round.
func (k kind[T]) crossed(n int) [][]T {
	a := k.some(n, n, 4, 8)
	for i := range a {
		for j := 0; j <= i; j++ {
			var zero T
			a[i][j] = zero
		}
		a[i][i] = k.one
	}
	for i := range n / 2 {
		a[i], a[n-1-i] = a[n-1-i], a[i]
	}
	return a
}

func inverseOfGreat[T matrix.Number[T]](t *testing.T, k kind[T], n int) {
	need := needMatrix[T](t)
	identity := need(matrix.Identity(n, k.one))
	a := k.crossed(n)
	inverse := need(matrix.Inverse(a))
	if !same(need(matrix.Times(a, inverse)), identity) || !same(need(matrix.Times(inverse, a)), identity) {
		t.Errorf("%s: no inverse of %d rows", k.name, n)
	}
	b := k.list(n, 3)
	x, err := matrix.Solve(a, b)
	if err != api.OK || !sameRow(sums(a, x), b) {
		t.Errorf("%s: no solution of %d rows", k.name, n)
	}
	a[n/3] = a[n/2]
	got, err := matrix.Inverse(a)
	wantMatrix(t, k.name+" Inverse with a row twice", got, err, nil, api.ErrSingular)
}

// sums are those of each row's numbers times x's.
func sums[T matrix.Number[T]](a [][]T, x []T) []T {
	out := make([]T, len(a))
	for i := range a {
		for t := range x {
			out[i] = out[i].Plus(a[i][t].Times(x[t]))
		}
	}
	return out
}

// P3.7
func TestSolve(t *testing.T) {
	a := elemMatrix{{1, 1}, {1, 2}}
	same := elemMatrix{{1, 1}, {1, 1}}
	for _, x := range []struct {
		a       elemMatrix
		b, want []field.Elem
		err     api.Errno
	}{
		{a, []field.Elem{1, 0}, []field.Elem{245, 244}, api.OK},
		{a, []field.Elem{0, 0}, []field.Elem{0, 0}, api.OK},
		{elemMatrix{{0, 2}, {3, 0}}, []field.Elem{1, 1}, []field.Elem{244, 142}, api.OK},
		{nil, nil, nil, api.OK},
		{elemMatrix{}, []field.Elem{}, nil, api.OK},
		{same, []field.Elem{0, 0}, nil, api.ErrSingular},
		{same, []field.Elem{1, 2}, nil, api.ErrSingular},
		{elemMatrix{{0}}, []field.Elem{0}, nil, api.ErrSingular},
		{elemMatrix{{1}}, nil, nil, api.ErrSizes},
		{elemMatrix{{1}}, []field.Elem{1, 2}, nil, api.ErrSizes},
		{same, []field.Elem{1}, nil, api.ErrSizes},
		{same, []field.Elem{1, 2, 3}, nil, api.ErrSizes},
		{nil, []field.Elem{0}, nil, api.ErrSizes},
		{nil, make([]field.Elem, 256), nil, api.ErrSizes},
		{a, make([]field.Elem, 256), nil, api.ErrSizes},
		{elemMatrix{{1, 2}}, []field.Elem{1}, nil, api.ErrSizes},
		{elemMatrix{{1, 2}}, []field.Elem{1, 2}, nil, api.ErrSizes},
		{elemMatrix{{1}, {2}}, []field.Elem{1}, nil, api.ErrSizes},
		{elemMatrix{{1}, {2}}, []field.Elem{1, 2}, nil, api.ErrSizes},
		{elemMatrix{nil}, nil, nil, api.ErrSizes},
	} {
		got, err := matrix.Solve(x.a, x.b)
		wantList(t, fmt.Sprint("Solve ", x.a, x.b), got, err, x.want, x.err)
	}
}

// P3.5 to P3.7: a's fault comes first.
func TestStepsFaults(t *testing.T) {
	stepsFaults(t, elems())
	stepsFaults(t, bits())
	stepsFaults(t, looses())
}

func stepsFaults[T matrix.Number[T]](t *testing.T, k kind[T]) {
	for _, x := range faulty[T]() {
		wantRank(t, k.name+" "+x.name, x.a, 0, x.err)
		got, err := matrix.Inverse(x.a)
		wantMatrix(t, k.name+" Inverse of "+x.name, got, err, nil, x.err)
		for _, n := range []int{0, 2, 3, 255, 256} {
			list, err := matrix.Solve(x.a, k.list(n, 1))
			wantList(t, k.name+" Solve of "+x.name, list, err, nil, x.err)
		}
	}
}

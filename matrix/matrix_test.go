package matrix_test

import (
	"fmt"
	"math"
	"testing"

	"cairn/api"
	"cairn/field"
	"cairn/matrix"
)

type elemMatrix = [][]field.Elem

// zeros is a matrix of zeros.
func zeros[T any](rows, cols int) [][]T {
	a := make([][]T, rows)
	for i := range a {
		a[i] = make([]T, cols)
	}
	return a
}

// faulty are matrices with their faults.
func faulty[T any]() []struct {
	name string
	a    [][]T
	err  api.Errno
} {
	ragged := func(rows int, at int, cols int) [][]T {
		a := zeros[T](rows, 2)
		a[at] = make([]T, cols)
		return a
	}
	behind := ragged(4, 1, 3)
	behind[3] = make([]T, 256)
	return []struct {
		name string
		a    [][]T
		err  api.Errno
	}{
		{"256 rows", zeros[T](256, 2), api.ErrLarge},
		{"256 rows without numbers", make([][]T, 256), api.ErrLarge},
		{"a row of 256", zeros[T](1, 256), api.ErrLarge},
		{"rows of 256", zeros[T](2, 256), api.ErrLarge},
		{"rows of unlike lengths", ragged(3, 1, 3), api.ErrRagged},
		{"a short last row", ragged(3, 2, 1), api.ErrRagged},
		{"a short first row", ragged(3, 0, 1), api.ErrRagged},
		{"a last row without numbers", ragged(2, 1, 0), api.ErrRagged},
		{"a first row without numbers", ragged(2, 0, 0), api.ErrRagged},
		{"255 rows, a long one of 255", ragged(255, 200, 255), api.ErrRagged},
		{"both faults, the long row first", ragged(2, 0, 256), api.ErrLarge},
		{"both faults, the long row last", ragged(3, 2, 256), api.ErrLarge},
		{"both faults, the long row behind one of another length", behind, api.ErrLarge},
		{"both faults, 256 rows", ragged(256, 3, 1), api.ErrLarge},
		{"both faults, the last of 256 rows", ragged(256, 255, 300), api.ErrLarge},
	}
}

// P3.1
func TestIdentity(t *testing.T) {
	identityOf(t, elems())
	identityOf(t, bits())
	identityOf(t, looses())
	identityOf(t, fars())
}

func identityOf[T matrix.Number[T]](t *testing.T, k kind[T]) {
	for _, n := range []int{0, 1, 2, 3, 7, 254, 255} {
		for _, seed := range []int{0, 1, 2, 3, 7, 200} {
			one := k.of(seed)
			want := zeros[T](n, n)
			for i := range want {
				want[i][i] = one
			}
			got, err := matrix.Identity(n, one)
			wantMatrix(t, fmt.Sprint(k.name, " Identity ", n), got, err, want, api.OK)
		}
	}
	for _, n := range []int{-1, -2, -255, math.MinInt} {
		got, err := matrix.Identity(n, k.one)
		wantMatrix(t, fmt.Sprint(k.name, " Identity ", n), got, err, nil, api.ErrArg)
	}
	for _, n := range []int{256, 257, 65536, math.MaxInt} {
		got, err := matrix.Identity(n, k.one)
		wantMatrix(t, fmt.Sprint(k.name, " Identity ", n), got, err, nil, api.ErrLarge)
	}
}

// P3.1, P3.2: the number one stands there as it was handed in, written in the same way.
func TestOneStandsAsItWasHandedIn(t *testing.T) {
	for _, one := range []loose{{1, 5}, {0, 9}, {2, 0}, {3, 70}} {
		a, _ := matrix.Identity(3, one)
		b, _ := matrix.Powers([]loose{{0, 2}, {1, 8}, {2, 4}}, 2, one)
		for i := range 3 {
			if a[i][i] != one || b[i][0] != one {
				t.Errorf("%v: Identity has %v, Powers %v in row %d", one, a[i][i], b[i][0], i)
			}
		}
	}
}

// P3.2
func TestPowers(t *testing.T) {
	powersOf(t, elems())
	powersOf(t, bits())
	powersOf(t, looses())
	powersOf(t, fars())
	for _, x := range []struct {
		points []field.Elem
		cols   int
		one    field.Elem
		want   elemMatrix
	}{
		{[]field.Elem{0, 1, 2, 3}, 3, 1, elemMatrix{{1, 0, 0}, {1, 1, 1}, {1, 2, 4}, {1, 3, 5}}},
		{[]field.Elem{2, 2}, 4, 1, elemMatrix{{1, 2, 4, 8}, {1, 2, 4, 8}}},
		{[]field.Elem{2, 0}, 3, 7, elemMatrix{{7, 14, 28}, {7, 0, 0}}},
		{[]field.Elem{2, 3}, 3, 0, elemMatrix{{0, 0, 0}, {0, 0, 0}}},
		{[]field.Elem{5}, 0, 1, elemMatrix{nil}},
		{[]field.Elem{5}, 1, 1, elemMatrix{{1}}},
		{[]field.Elem{}, 3, 1, nil},
		{nil, 255, 1, nil},
		{nil, 0, 1, nil},
	} {
		got, err := matrix.Powers(x.points, x.cols, x.one)
		wantMatrix(t, fmt.Sprint("Powers ", x.points, x.cols, x.one), got, err, x.want, api.OK)
	}
}

func powersOf[T matrix.Number[T]](t *testing.T, k kind[T]) {
	for _, n := range []int{0, 1, 2, 5, 255} {
		for _, cols := range []int{0, 1, 2, 6, 255} {
			points, one := k.list(n, cols), k.of(n+1)
			var want [][]T
			for _, p := range points {
				row := make([]T, cols)
				for j := range row {
					row[j] = one
					for range j {
						row[j] = p.Times(row[j])
					}
				}
				want = append(want, row)
			}
			got, err := matrix.Powers(points, cols, one)
			wantMatrix(t, fmt.Sprint(k.name, " Powers ", n, cols), got, err, want, api.OK)
		}
	}
	for _, x := range []struct {
		points, cols int
		err          api.Errno
	}{
		{1, -1, api.ErrArg}, {0, -1, api.ErrArg}, {256, -1, api.ErrArg}, {3, math.MinInt, api.ErrArg},
		{1, 256, api.ErrLarge}, {0, 256, api.ErrLarge}, {256, 0, api.ErrLarge}, {256, 255, api.ErrLarge}, {300, 256, api.ErrLarge}, {1, math.MaxInt, api.ErrLarge},
	} {
		got, err := matrix.Powers(k.list(x.points, 1), x.cols, k.one)
		wantMatrix(t, fmt.Sprint(k.name, " Powers ", x.points, x.cols), got, err, nil, x.err)
	}
}

// P3.3
func TestTimes(t *testing.T) {
	timesOf(t, elems())
	timesOf(t, bits())
	timesOf(t, looses())
	timesOf(t, fars())
	none := elemMatrix{}
	for _, x := range []struct {
		a, b, want elemMatrix
		err        api.Errno
	}{
		{elemMatrix{{1, 2}}, elemMatrix{{3}, {1}}, elemMatrix{{1}}, api.OK},
		{elemMatrix{{3}, {1}}, elemMatrix{{1, 2}}, elemMatrix{{3, 6}, {1, 2}}, api.OK},
		{elemMatrix{{0, 0}}, elemMatrix{{3}, {1}}, elemMatrix{{0}}, api.OK},
		{elemMatrix{{1, 2}}, elemMatrix{{1, 2}}, nil, api.ErrSizes},
		{elemMatrix{{1, 2}}, elemMatrix{{1}}, nil, api.ErrSizes},
		{elemMatrix{{1, 2}}, elemMatrix{{1}, {2}, {3}}, nil, api.ErrSizes},
		{none, nil, nil, api.OK},
		{nil, none, nil, api.OK},
		{elemMatrix{nil, {}}, none, elemMatrix{nil, nil}, api.OK},
		{elemMatrix{nil, {}}, nil, elemMatrix{nil, nil}, api.OK},
		{elemMatrix{{1, 2}}, elemMatrix{nil, {}}, elemMatrix{nil}, api.OK},
		{none, elemMatrix{{1, 2}}, nil, api.ErrSizes},
		{none, elemMatrix{{}}, nil, api.ErrSizes},
		{elemMatrix{{1}}, none, nil, api.ErrSizes},
		{elemMatrix{{}}, elemMatrix{{}}, nil, api.ErrSizes},
	} {
		got, err := matrix.Times(x.a, x.b)
		wantMatrix(t, fmt.Sprint("Times ", x.a, x.b), got, err, x.want, x.err)
	}
}

func timesOf[T matrix.Number[T]](t *testing.T, k kind[T]) {
	sizes := []int{0, 1, 2, 3, 5, 17}
	for _, rows := range sizes {
		for _, places := range sizes {
			for _, cols := range sizes {
				if rows == 0 && places > 0 || places == 0 && cols > 0 {
					continue // without rows there are no columns
				}
				a, b := k.some(rows, places, cols%3, 1), k.some(places, cols, rows%3, 2)
				got, err := matrix.Times(a, b)
				wantMatrix(t, fmt.Sprint(k.name, " Times ", rows, places, cols), got, err, plainTimes(a, b, cols), api.OK)
			}
		}
	}
	a, b := k.some(2, 255, 0, 3), k.some(255, 255, 0, 4)
	got, err := matrix.Times(a, b)
	wantMatrix(t, k.name+" Times of 255", got, err, plainTimes(a, b, 255), api.OK)
	a, b = k.some(255, 2, 0, 3), k.some(2, 255, 0, 4)
	got, err = matrix.Times(a, b)
	wantMatrix(t, k.name+" Times of 255 rows", got, err, plainTimes(a, b, 255), api.OK)
}

// P3.3: a's fault, then b's, then ErrSizes.
func TestTimesFaults(t *testing.T) {
	timesFaults(t, elems())
	timesFaults(t, bits())
	timesFaults(t, looses())
}

func timesFaults[T matrix.Number[T]](t *testing.T, k kind[T]) {
	for _, x := range faulty[T]() {
		for _, good := range [][][]T{nil, zeros[T](2, 2), zeros[T](3, 3), zeros[T](1, 5), zeros[T](2, 0)} {
			got, err := matrix.Times(x.a, good)
			wantMatrix(t, k.name+" Times behind "+x.name, got, err, nil, x.err)
			got, err = matrix.Times(good, x.a)
			wantMatrix(t, k.name+" Times ahead of "+x.name, got, err, nil, x.err)
		}
		for _, y := range faulty[T]() {
			got, err := matrix.Times(x.a, y.a)
			wantMatrix(t, k.name+" Times of "+x.name+" and "+y.name, got, err, nil, x.err)
		}
	}
}

// P3.4
func TestRows(t *testing.T) {
	rowsOf(t, elems())
	rowsOf(t, bits())
	rowsOf(t, looses())
	rowsOf(t, fars())
	a := elemMatrix{{1, 2}, {3, 4}}
	many := make([]int, 256)
	many[9] = -1
	for _, x := range []struct {
		a    elemMatrix
		at   []int
		want elemMatrix
		err  api.Errno
	}{
		{a, []int{1, 1, 0}, elemMatrix{{3, 4}, {3, 4}, {1, 2}}, api.OK},
		{a, []int{0}, elemMatrix{{1, 2}}, api.OK},
		{a, nil, nil, api.OK},
		{a, []int{}, nil, api.OK},
		{a, []int{2}, nil, api.ErrArg},
		{a, []int{-1}, nil, api.ErrArg},
		{a, []int{0, 1, 2}, nil, api.ErrArg},
		{a, []int{-1, 0}, nil, api.ErrArg},
		{a, []int{0, math.MinInt}, nil, api.ErrArg},
		{a, []int{math.MaxInt, 0}, nil, api.ErrArg},
		{a, make([]int, 255), elemMatrixOf(255, a[0]), api.OK},
		{a, make([]int, 256), nil, api.ErrLarge},
		{a, many, nil, api.ErrLarge},
		{nil, many, nil, api.ErrLarge},
		{nil, nil, nil, api.OK},
		{nil, []int{0}, nil, api.ErrArg},
		{elemMatrix{nil, {}}, []int{1, 0, 1}, elemMatrix{nil, nil, nil}, api.OK},
	} {
		got, err := matrix.Rows(x.a, x.at)
		wantMatrix(t, fmt.Sprint("Rows ", x.a, x.at), got, err, x.want, x.err)
	}
}

func elemMatrixOf(n int, row []field.Elem) elemMatrix {
	var a elemMatrix
	for range n {
		a = append(a, row)
	}
	return a
}

func rowsOf[T matrix.Number[T]](t *testing.T, k kind[T]) {
	d := draw(5)
	for _, rows := range []int{1, 2, 3, 10, 255} {
		for _, cols := range []int{0, 1, 4, 255} {
			a := k.some(rows, cols, 1, 6)
			for _, n := range []int{0, 1, 5, 255} {
				var at []int
				var want [][]T
				for range n {
					i := d.next(rows)
					at, want = append(at, i), append(want, a[i])
				}
				got, err := matrix.Rows(a, at)
				wantMatrix(t, fmt.Sprint(k.name, " Rows ", rows, cols, at), got, err, want, api.OK)
			}
		}
	}
	for _, x := range faulty[T]() {
		for _, at := range [][]int{nil, {0}, {-1}, {1000}, make([]int, 256)} {
			got, err := matrix.Rows(x.a, at)
			wantMatrix(t, fmt.Sprint(k.name, " Rows of ", x.name, at), got, err, nil, x.err)
		}
	}
}

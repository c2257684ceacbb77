package fan_test

import (
	"math"
	"testing"

	"cairn/api"
	"cairn/fan"
)

// checkCounts holds Count of each element and of others, and Most, against the words of P16.3; alike tells whether two are one and the same, a NaN too.
func checkCounts[T comparable](t *testing.T, l []T, others []T, same, alike func(x, y T) bool) {
	t.Helper()
	for _, xs := range [][]T{l, others} {
		for _, x := range xs {
			got, want := fan.Count(l, x), wordsOfCount(l, x, same)
			fatalUnless(t, got == want, "Count(%v, %v) = %d, not %d", l, x, got, want)
		}
	}
	var first T
	at, want := wordsOfMost(l, same)
	if at >= 0 {
		first = l[at]
	}
	x, n := fan.Most(l)
	fatalUnless(t, n == want && alike(x, first), "Most(%v) = %v, %d, not %v, %d", l, x, n, first, want)
}

// plainCounts is checkCounts of a kind whose == tells all.
func plainCounts[T comparable](t *testing.T, l []T, others ...T) {
	t.Helper()
	is := func(x, y T) bool { return x == y }
	checkCounts(t, l, others, is, is)
}

// P16.3: every list of up to seven of three numbers.
func TestEveryShortList(t *testing.T) {
	var l []int
	var grow func()
	grow = func() {
		plainCounts(t, l, 0, 1, 2, 3, -1)
		if len(l) == 7 {
			return
		}
		for x := range 3 {
			l = append(l, x)
			grow()
			l = l[:len(l)-1]
		}
	}
	grow()
}

// P16.3: of those that are there as often as any, the first, whether it is a zero one or not, and whatever stands between.
func TestMostIsTheFirst(t *testing.T) {
	for _, x := range []struct {
		l    []int
		want int
		n    int
	}{
		{[]int{7}, 7, 1}, {[]int{0}, 0, 1}, {[]int{0, 7}, 0, 1}, {[]int{7, 0}, 7, 1}, {[]int{7, 0, 0}, 0, 2}, {[]int{3, 2, 1}, 3, 1}, {[]int{1, 2, 3}, 1, 1},
		{[]int{1, 2, 2, 1, 3}, 1, 2}, {[]int{3, 1, 2, 2, 1}, 1, 2}, {[]int{3, 2, 1, 1, 2}, 2, 2}, {[]int{1, 2, 2, 2, 1, 1, 1, 2}, 1, 4}, {[]int{1, 1, 1}, 1, 3},
	} {
		first, n := fan.Most(x.l)
		fatalUnless(t, first == x.want && n == x.n, "Most(%v) = %d, %d, not %d, %d", x.l, first, n, x.want, x.n)
	}
}

// P16.3: lists of other kinds: numbers of errors, texts, bools, arrays, structs, pointers, channels.
func TestListsOfAnyKind(t *testing.T) {
	a, b := new(int), new(int)
	c, d := make(chan int), make(chan int)
	r := source(163)
	for n := range 200 {
		n /= 10
		plainCounts(t, some(r.Intn, n, api.OK, api.ErrDown, api.ErrIO, -5), api.ErrFull)
		plainCounts(t, some(r.Intn, n, "", "a", "\x00", "ab", "b"), "c", "a\x00")
		plainCounts(t, some(r.Intn, n, true, false), true, false)
		plainCounts(t, some(r.Intn, n, [2]byte{1, 2}, [2]byte{2, 1}, [2]byte{}), [2]byte{1, 1})
		plainCounts(t, some(r.Intn, n, api.Gen{Epoch: 1, Count: 2}, api.Gen{Epoch: 2, Count: 1}, api.Gen{}), api.Gen{Epoch: 1})
		plainCounts(t, some(r.Intn, n, a, b, nil), new(int))
		plainCounts(t, some(r.Intn, n, c, d, nil), make(chan int))
		plainCounts(t, some(r.Intn, n, struct{}{}))
		plainCounts(t, some[error](r.Intn, n, api.OK, api.ErrIO, nil), error(api.ErrDown))
		plainCounts(t, some[any](r.Intn, n, 1, "1", int8(1), nil, 1.0, a), any(uint(1)), any(b))
	}
}

// some is a list of n of these.
func some[T any](intn func(int) int, n int, of ...T) []T {
	var l []T
	for range n {
		l = append(l, of[intn(len(of))])
	}
	return l
}

// P16.3: the same by ==: the two zeros of floats are, a NaN is not even itself, so that a list of NaNs alone has a first element that is there 0 times.
func TestFloats(t *testing.T) {
	nan, low := math.NaN(), math.Copysign(0, -1)
	same := func(x, y float64) bool { return x == y }
	bits := func(x, y float64) bool { return math.Float64bits(x) == math.Float64bits(y) }
	r := source(164)
	for n := range 300 {
		checkCounts(t, some(r.Intn, n/30, nan, low, 0, 1), []float64{nan, 0, low, 2}, same, bits)
	}
	checkCounts(t, []float64{math.Float64frombits(0x7ff8000000000007), nan, nan}, nil, same, bits)

	type pair struct {
		a, b float64
	}
	l := []pair{{nan, 1}, {1, nan}, {1, 0}, {1, low}, {nan, 1}}
	x, m := fan.Most(l)
	fatalUnless(t, x == l[2] && m == 2 && fan.Count(l, l[0]) == 0 && fan.Count(l, l[3]) == 2, "Most(%v) = %v, %d", l, x, m)
	anyX, m := fan.Most([]any{nan, nan, 1, nan})
	fatalUnless(t, anyX == any(1) && m == 1, "Most = %v, %d", anyX, m)
}

// W0: an interface may hold what can't be compared; nobody panics, and such a thing is like nothing else.
func TestWhatCannotBeCompared(t *testing.T) {
	type box struct {
		n    int
		what any
	}
	list, other := any([]int{1}), any([]int{1})
	table, call := any(map[int]int{}), any(func() {})
	odd := []any{list, other, table, call, any(box{1, []int{1}}), any([1]any{table})}
	for _, x := range odd {
		for _, y := range odd {
			for _, l := range [][]any{{x, 1}, {1, x, y}, {x, y, 1}} {
				fatalUnless(t, fan.Count(l, x) == 0 && fan.Count(l, y) == 0 && fan.Count(l, any(1)) == 1, "Count of what can't be compared")
			}
			first, n := fan.Most([]any{x, 1, y, 2, x})
			fatalUnless(t, first == any(1) && n == 1, "Most = %v, %d", first, n)
			first, n = fan.Most([]any{y, 2, x, 1, 2, y, y})
			fatalUnless(t, first == any(2) && n == 2, "Most = %v, %d", first, n)
		}
	}
	first, n := fan.Most([]any{list, table})
	kept, is := first.([]int)
	fatalUnless(t, is && len(kept) == 1 && n == 0, "Most = %v, %d", first, n)

	boxes := []box{{1, []int{1}}, {2, []int{1}}, {2, "a"}, {1, []int{1}}, {2, "a"}}
	most, n := fan.Most(boxes)
	fatalUnless(t, most.n == 2 && most.what == any("a") && n == 2, "Most = %v, %d", most, n)
	fatalUnless(t, fan.Count(boxes, boxes[0]) == 0 && fan.Count(boxes, boxes[2]) == 2, "Count of boxes")
}

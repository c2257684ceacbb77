package listing_test

import (
	"cmp"
	"fmt"
	"iter"
	"math"
	"runtime"
	"slices"
	"strings"
	"sync"
	"testing"
	"time"

	"cairn/listing"
)

// pair is what a merging gives.
type pair[T any] struct {
	x     T
	often int
}

// gathered is all that a merging gives.
func gathered[T any](m iter.Seq2[T, int]) []pair[T] {
	var l []pair[T]
	for x, often := range m {
		l = append(l, pair[T]{x, often})
	}
	return l
}

// mergedByHand is each element of the lists once, rising, and how often they have it.
func mergedByHand[T cmp.Ordered](lists [][]T) []pair[T] {
	var l []pair[T]
	all := slices.Concat(lists...)
	slices.Sort(all)
	for _, x := range all {
		if len(l) > 0 && cmp.Compare(l[len(l)-1].x, x) == 0 {
			l[len(l)-1].often++
		} else {
			l = append(l, pair[T]{x, 1})
		}
	}
	return l
}

// samePairs holds them against each other as cmp.Compare does.
func samePairs[T cmp.Ordered](a, b []pair[T]) bool {
	return slices.EqualFunc(a, b, func(p, q pair[T]) bool { return cmp.Compare(p.x, q.x) == 0 && p.often == q.often })
}

// streamsOf are the lists as streams; an empty one is nil now and then.
func streamsOf[T any](lists [][]T) []iter.Seq[T] {
	var l []iter.Seq[T]
	for i, list := range lists {
		if len(list) == 0 && i%2 == 0 {
			l = append(l, nil)
		} else {
			l = append(l, slices.Values(list))
		}
	}
	return l
}

func wantMerged[T cmp.Ordered](t *testing.T, lists [][]T) {
	t.Helper()
	got, want := gathered(listing.Merge(streamsOf(lists)...)), mergedByHand(lists)
	fatalUnless(t, samePairs(got, want), "Merge of %v gives %v, not %v", lists, got, want)
}

// The chapter's examples of Merge.
func TestMergeExamples(t *testing.T) {
	got := gathered(listing.Merge(slices.Values([]int{1, 3}), slices.Values([]int{2, 3, 3})))
	fatalUnless(t, slices.Equal(got, []pair[int]{{1, 1}, {2, 1}, {3, 3}}), "%v", got)
	got = gathered(listing.Merge[int]())
	fatalUnless(t, len(got) == 0, "%v", got)
	texts := gathered(listing.Merge(nil, slices.Values([]string{"a"})))
	fatalUnless(t, slices.Equal(texts, []pair[string]{{"a", 1}}), "%v", texts)
}

// risingLists are all rising lists of at most so many numbers below m.
func risingLists(long, m int) [][]int {
	l := [][]int{nil}
	for n := 1; n <= long; n++ {
		every(n, m, func(list []int) {
			if slices.IsSorted(list) {
				l = append(l, slices.Clone(list))
			}
		})
	}
	return l
}

// P22.1: every few streams of few elements.
func TestMergeOfEveryFew(t *testing.T) {
	all := risingLists(3, 3)
	for n := range 4 {
		every(n, len(all), func(which []int) {
			var lists [][]int
			for _, i := range which {
				lists = append(lists, all[i])
			}
			wantMerged(t, lists)
		})
	}
	all = risingLists(2, 2)
	every(5, len(all), func(which []int) {
		var lists [][]int
		for _, i := range which {
			lists = append(lists, all[i])
		}
		wantMerged(t, lists)
	})
}

// mergeSome merges streams of elements of one type.
func mergeSome[T cmp.Ordered](t *testing.T, elements ...T) {
	t.Helper()
	r := source(221)
	for range 500 {
		lists := make([][]T, r.Intn(12))
		for i := range lists {
			for range r.Intn(pick(r, 1, 3, 20)) {
				lists[i] = append(lists[i], pick(r, elements...))
			}
			slices.Sort(lists[i])
		}
		wantMerged(t, lists)
	}
	wantMerged(t, [][]T{slices.Sorted(slices.Values(elements)), nil, slices.Sorted(slices.Values(elements))})
}

type word string

// P22.1: elements of all kinds, compared as cmp.Compare does: a number that is none is below all others and like itself, the two zeros are alike, texts are compared byte by byte.
func TestMergeOfAllKinds(t *testing.T) {
	mergeSome(t, 0, 1, -1, 7, math.MaxInt, math.MinInt)
	mergeSome[uint8](t, 0, 1, 127, 128, 255)
	mergeSome[int8](t, 0, 1, 127, -128, -1)
	mergeSome[uint64](t, 0, 1, math.MaxUint64, math.MaxInt64, 1<<63)
	mergeSome(t, 0.0, math.Copysign(0, -1), 1.5, -1.5, math.Inf(1), math.Inf(-1), math.NaN(), math.MaxFloat64, math.SmallestNonzeroFloat64)
	mergeSome[float32](t, 0, 1, -1, float32(math.NaN()), float32(math.Inf(-1)))
	mergeSome(t, "", "a", "b", "a/b", "a\x00", "\x00", "\xff", "ä", "A", strings.Repeat("a", 300))
	mergeSome[word](t, "", "a", "ab", "b")
	nan, zero := math.NaN(), math.Copysign(0, -1)
	got := gathered(listing.Merge(slices.Values([]float64{nan, nan, zero, 0}), slices.Values([]float64{nan, math.Inf(-1), 0})))
	fatalUnless(t, len(got) == 3 && math.IsNaN(got[0].x) && got[0].often == 3 && math.IsInf(got[1].x, -1) && got[1].often == 1 && got[2] == pair[float64]{0, 3}, "%v", got)
}

// P22.1: a stream by itself; the same streams in every order; one stream that is handed in several times.
func TestMergeOfSameStreams(t *testing.T) {
	lists := [][]int{{1, 1, 4}, {1, 2}, {}, {4, 4, 9}, {0}}
	want := mergedByHand(lists)
	every(5, 5, func(order []int) {
		if slices.Equal(slices.Sorted(slices.Values(order)), []int{0, 1, 2, 3, 4}) {
			var turned [][]int
			for _, i := range order {
				turned = append(turned, lists[i])
			}
			got := gathered(listing.Merge(streamsOf(turned)...))
			fatalUnless(t, slices.Equal(got, want), "in the order %v: %v", order, got)
		}
	})
	one := slices.Values([]int{1, 2, 2})
	got := gathered(listing.Merge(one, one, nil, one))
	fatalUnless(t, slices.Equal(got, []pair[int]{{1, 3}, {2, 6}}), "%v", got)
	got = gathered(listing.Merge(one))
	fatalUnless(t, slices.Equal(got, []pair[int]{{1, 1}, {2, 2}}), "%v", got)
	got = gathered(listing.Merge[int](nil, nil, nil))
	fatalUnless(t, len(got) == 0, "%v", got)
}

// watched is a stream that notes how it is gone through.
type watched struct {
	list          []int
	given         int // elements, in the last walk
	opened, ended int // walks
	left          int // walks that were left ahead of its end
}

func (w *watched) all(yield func(int) bool) {
	w.given = 0
	w.opened++
	defer func() { w.ended++ }()
	for _, x := range w.list {
		w.given++
		if !yield(x) {
			w.left++
			return
		}
	}
}

// watchedOf are the lists as streams, watched.
func watchedOf(lists [][]int) ([]*watched, []iter.Seq[int]) {
	var w []*watched
	var l []iter.Seq[int]
	for _, list := range lists {
		w = append(w, &watched{list: list})
		l = append(l, w[len(w)-1].all)
	}
	return w, l
}

// notAbove is how many elements of a list are not above x.
func notAbove(list []int, x int) int {
	n := 0
	for _, y := range list {
		if y <= x {
			n++
		}
	}
	return n
}

// wantLeft goes through a merging up to each of its elements, and wants no stream to have been asked too much or to be open.
func wantLeft(t *testing.T, lists [][]int) {
	t.Helper()
	want := mergedByHand(lists)
	for end := range want {
		w, streams := watchedOf(lists)
		m := listing.Merge(streams...)
		for _, x := range w {
			fatalUnless(t, x.opened == 0, "a stream was opened ahead of the walk")
		}
		for walk := 1; walk < 3; walk++ { // the second one begins anew
			var got []pair[int]
			for x, often := range m {
				got = append(got, pair[int]{x, often})
				for i, s := range w {
					fatalUnless(t, s.given <= notAbove(lists[i], x)+1, "at %d of %v: the stream %d has given %d", x, lists, i, s.given)
				}
				if len(got) == end+1 {
					break
				}
			}
			fatalUnless(t, slices.Equal(got, want[:end+1]), "%v, not %v", got, want[:end+1])
			for i, s := range w {
				fatalUnless(t, s.opened == walk && s.ended == walk, "left at %v of %v: the stream %d was opened %d times, and ended %d", got[end], lists, i, s.opened, s.ended)
				fatalUnless(t, s.given <= notAbove(lists[i], got[end].x)+1, "left at %v of %v: the stream %d has given %d", got[end], lists, i, s.given)
			}
		}
		fatalUnless(t, slices.Equal(gathered(m), want), "gone through again to its end: %v", gathered(m))
	}
}

// P22.1: left early behind each element, in every few streams and in others: no more is asked than the elements up to it and one further one, and no stream is left open.
func TestMergeLeftEarly(t *testing.T) {
	all := risingLists(3, 3)
	for n := 1; n < 4; n++ {
		every(n, len(all), func(which []int) {
			var lists [][]int
			for _, i := range which {
				lists = append(lists, all[i])
			}
			if n < 3 || which[0] <= which[1] && which[1] <= which[2] {
				wantLeft(t, lists)
			}
		})
	}
	r := source(222)
	for range 100 {
		lists := make([][]int, 1+r.Intn(20))
		for i := range lists {
			for range r.Intn(20) {
				lists[i] = append(lists[i], r.Intn(30))
			}
			slices.Sort(lists[i])
		}
		wantLeft(t, lists)
	}
}

// upFrom is a stream without an end.
func upFrom(first, step int, given *int) iter.Seq[int] {
	return func(yield func(int) bool) {
		for x := first; yield(x); x += step {
			*given++
		}
	}
}

// P22.1: streams without an end can be gone through as far as one likes.
func TestMergeOfStreamsWithoutEnd(t *testing.T) {
	var twos, threes int
	m := listing.Merge(upFrom(0, 2, &twos), slices.Values([]int{5, 5, 6}), upFrom(0, 3, &threes))
	for n := range 30 {
		twos, threes = 0, 0
		at := 0
		for x, often := range m {
			want := 0
			for _, is := range []bool{x%2 == 0, x%3 == 0, x == 5, x == 5, x == 6} {
				if is {
					want++
				}
			}
			fatalUnless(t, want > 0 && often == want, "%d: %d times", x, often)
			at = x
			if x >= n {
				break
			}
		}
		fatalUnless(t, twos <= at/2+1 && threes <= at/3+1, "left behind %d, and asked for %d and %d", at, twos, threes)
	}
}

// P22.1: one merging is gone through in several walks at one time, each for itself.
func TestMergeWalksBesideOneAnother(t *testing.T) {
	m := listing.Merge(slices.Values([]int{1, 3, 3}), slices.Values([]int{2, 3}))
	want := []pair[int]{{1, 1}, {2, 1}, {3, 3}}
	for x := range m {
		fatalUnless(t, slices.Equal(gathered(m), want), "a walk within one, at %d", x)
		for range m {
			break
		}
	}
	var group sync.WaitGroup
	var all [20][]pair[int]
	for i := range all {
		group.Go(func() { all[i] = gathered(m) })
	}
	group.Wait()
	for _, l := range all {
		fatalUnless(t, slices.Equal(l, want), "%v", l)
	}
}

// P22.1: what may be gone through once alone is given once.
func TestMergeOfWhatIsUsedUp(t *testing.T) {
	left := []int{1, 2, 2, 5}
	once := func(yield func(int) bool) {
		for len(left) > 0 {
			x := left[0]
			left = left[1:]
			if !yield(x) {
				return
			}
		}
	}
	m := listing.Merge(once, slices.Values([]int{2, 7}))
	got := gathered(m)
	fatalUnless(t, slices.Equal(got, []pair[int]{{1, 1}, {2, 3}, {5, 1}, {7, 1}}), "%v", got)
	got = gathered(m)
	fatalUnless(t, slices.Equal(got, []pair[int]{{2, 1}, {7, 1}}), "%v", got)
}

// The list of streams that is handed in is neither changed nor kept.
func TestMergeKeepsNoList(t *testing.T) {
	for range 2 {
		streams := make([]iter.Seq[int], 3, 9)
		for i := range streams[:9] {
			streams[:9][i] = slices.Values([]int{9 - i})
		}
		m := listing.Merge(streams...)
		want := []pair[int]{{7, 1}, {8, 1}, {9, 1}}
		fatalUnless(t, slices.Equal(gathered(m), want), "%v", gathered(m))
		for i, stream := range streams[:9] {
			fatalUnless(t, slices.Equal(slices.Collect(stream), []int{9 - i}), "the stream %d is another one", i)
		}
		streams[0], streams[1] = nil, slices.Values([]int{1, 2, 3})
		clear(streams[3:9])
		fatalUnless(t, slices.Equal(gathered(m), want), "the list was turned: %v", gathered(m))
	}
}

// P22.1: of streams that do not rise it ends, if they do, and leaves none open.
func TestMergeOfStreamsThatDoNotRise(t *testing.T) {
	r := source(223)
	for range 3000 {
		lists := make([][]int, r.Intn(6))
		for i := range lists {
			for range r.Intn(8) {
				lists[i] = append(lists[i], r.Intn(5))
			}
		}
		w, streams := watchedOf(lists)
		leave := r.Intn(40)
		for range listing.Merge(streams...) {
			if leave--; leave == 0 {
				break
			}
		}
		for i, s := range w {
			fatalUnless(t, s.opened == s.ended, "of %v the stream %d is left open", lists, i)
		}
	}
}

// deaf is a stream that goes on when it is left.
func deaf(list []int, ended *int) iter.Seq[int] {
	return func(yield func(int) bool) {
		for _, x := range list {
			yield(x)
		}
		*ended++
	}
}

// A stream that goes on when it is left does no harm: it ends, and nothing more of it is given.
func TestMergeOfStreamsThatGoOn(t *testing.T) {
	for leave := range 5 {
		ended := 0
		var got []int
		for x := range listing.Merge(deaf([]int{1, 3, 5}, &ended), deaf([]int{2, 3, 9}, &ended)) {
			got = append(got, x)
			if len(got) == leave+1 {
				break
			}
		}
		fatalUnless(t, slices.Equal(got, []int{1, 2, 3, 5, 9}[:leave+1]) && ended == 2, "%v, %d ended", got, ended)
	}
}

// However a walk ends, no stream is left open: also where the body of the loop panics, or a stream does. The panic is theirs and goes on.
func TestMergeOfWhatPanics(t *testing.T) {
	caught := func(do func()) (what any) {
		defer func() { what = recover() }()
		do()
		return nil
	}
	for at := range 3 {
		w, streams := watchedOf([][]int{{1, 4, 6}, {1, 5}, {1, 2, 3}})
		n := 0
		what := caught(func() {
			for range listing.Merge(streams...) {
				if n++; n == at+1 {
					panic("the body")
				}
			}
		})
		fatalUnless(t, what == "the body", "%v", what)
		for i, s := range w {
			fatalUnless(t, s.opened == 1 && s.ended == 1, "the stream %d is left open", i)
		}
		for place := range 4 {
			w, streams := watchedOf([][]int{{1, 4, 6}, {1, 5}, {1, 2, 3}})
			what := caught(func() {
				broken := func(yield func(int) bool) {
					for x := range at {
						yield(x)
					}
					panic("the stream")
				}
				for range listing.Merge(slices.Insert(streams, place, iter.Seq[int](broken))...) {
				}
			})
			fatalUnless(t, what == "the stream", "%v", what)
			for i, s := range w {
				fatalUnless(t, s.opened == s.ended, "the stream %d is left open", i)
			}
		}
	}
}

// P22.1: much is merged in a short time, and no goroutine is left.
func TestMergeOfMuch(t *testing.T) {
	before, begin := runtime.NumGoroutine(), time.Now()
	for _, x := range []struct{ streams, long int }{{1000, 300}, {3, 200000}, {100000, 1}, {1, 500000}} {
		var lists [][]int
		for i := range x.streams {
			list := make([]int, x.long)
			for j := range list {
				list[j] = j*x.streams + i // no two are alike
			}
			lists = append(lists, list)
		}
		n := 0
		for y, often := range listing.Merge(streamsOf(lists)...) {
			fatalUnless(t, y == n && often == 1, "%d: %d times", y, often)
			n++
		}
		fatalUnless(t, n == x.streams*x.long, "%d elements", n)
		for range listing.Merge(streamsOf(lists)...) {
			break
		}
	}
	fatalUnless(t, time.Since(begin) < 60*time.Second, "it took %v", time.Since(begin))
	for begin := time.Now(); runtime.NumGoroutine() > before; {
		fatalUnless(t, time.Since(begin) < 30*time.Second, "%d goroutines are left, of %d", runtime.NumGoroutine(), before)
		time.Sleep(time.Millisecond)
	}
}

// What one merging gives can be merged anew.
func TestMergeOfMergings(t *testing.T) {
	keysOf := func(m iter.Seq2[string, int]) iter.Seq[string] {
		return func(yield func(string) bool) {
			for x := range m {
				if !yield(x) {
					return
				}
			}
		}
	}
	r := source(224)
	for range 300 {
		var lists, once [][]string
		var parts []iter.Seq[string]
		for range 1 + r.Intn(4) {
			lists = nil
			for range r.Intn(4) {
				var list []string
				for range r.Intn(6) {
					list = append(list, fmt.Sprint(r.Intn(20)))
				}
				slices.Sort(list)
				lists = append(lists, list)
			}
			part := slices.Compact(slices.Sorted(slices.Values(slices.Concat(lists...))))
			once = append(once, part)
			parts = append(parts, keysOf(listing.Merge(streamsOf(lists)...)))
		}
		got, want := gathered(listing.Merge(parts...)), mergedByHand(once)
		fatalUnless(t, slices.Equal(got, want), "%v, not %v", got, want)
	}
}

package cache_test

import (
	"cmp"
	"fmt"
	"math"
	"slices"
	"strings"
	"testing"

	"cairn/api"
	"cairn/cache"
)

// told is a list of keys as a text.
func told[K cmp.Ordered](keys []K) string {
	var l []string
	for _, k := range keys {
		l = append(l, fmt.Sprint(k))
	}
	return strings.Join(l, " ")
}

// wantKeys wants a cache to hold these keys, the one used last first.
func wantKeys[K cmp.Ordered, V any](t *testing.T, c *cache.Cache[K, V], keys string, weight int) {
	t.Helper()
	fatalUnless(t, told(c.Keys()) == keys && c.Weight() == weight, "%q, %d, not %q, %d", told(c.Keys()), c.Weight(), keys, weight)
}

// wantPut puts something, and wants that answer.
func wantPut[K cmp.Ordered, V any](t *testing.T, c *cache.Cache[K, V], key K, v V, weight int, want bool) {
	t.Helper()
	fatalUnless(t, c.Put(key, v, weight) == want, "Put(%v, %v, %d) = %v", key, v, weight, !want)
}

// wantGet wants this of a key.
func wantGet[K cmp.Ordered, V comparable](t *testing.T, c *cache.Cache[K, V], key K, v V, is bool) {
	t.Helper()
	got, has := c.Get(key)
	fatalUnless(t, got == v && has == is, "Get(%v) = %v, %v, not %v, %v", key, got, has, v, is)
}

// The chapter's examples, the rows of a cache.
func TestExamples(t *testing.T) {
	for _, room := range []int{-1, 1<<30 + 1} {
		c, err := cache.New[string, int](room)
		fatalUnless(t, c == nil && err == 2, "New(%d) = %v, %d", room, c, err)
	}
	c, err := cache.New[string, int](3)
	fatalUnless(t, c != nil && err == 0, "New = %v, %d", c, err)
	wantPut(t, c, "a", 1, 1, true)
	wantPut(t, c, "b", 2, 1, true)
	wantPut(t, c, "c", 3, 1, true)
	wantKeys(t, c, "c b a", 3)
	wantGet(t, c, "a", 1, true)
	wantKeys(t, c, "a c b", 3)
	wantPut(t, c, "d", 4, 1, true)
	wantKeys(t, c, "d a c", 3)
	wantGet(t, c, "b", 0, false)
	wantPut(t, c, "e", 5, 3, true)
	wantKeys(t, c, "e", 3)
	wantPut(t, c, "e", 6, 4, false)
	wantKeys(t, c, "", 0)
	wantPut(t, c, "f", 7, 0, true)
	wantPut(t, c, "g", 8, 3, true)
	wantKeys(t, c, "g f", 3)
	wantPut(t, c, "f", 7, -1, false)
	wantKeys(t, c, "g", 3)

	for _, room := range []int{0, 1, 9} {
		f, _ := cache.New[float64, int](room)
		wantPut(t, f, math.NaN(), 1, 0, false)
		wantGet(t, f, math.NaN(), 0, false)
		fatalUnless(t, !f.Drop(math.NaN()), "NaN is held")
		wantKeys(t, f, "", 0)
	}
	f, _ := cache.New[float64, int](1)
	wantPut(t, f, math.Copysign(0, -1), 1, 1, true)
	wantGet(t, f, 0, 1, true)
}

// P28.1: the rooms that may be, and those that may not, whatever the keys and the values are.
func TestNew(t *testing.T) {
	for _, room := range []int{math.MinInt, math.MinInt32, -1 << 30, -1, api.MaxRoom + 1, math.MaxInt32, math.MaxInt} {
		a, err := cache.New[string, []byte](room)
		fatalUnless(t, a == nil && err == api.ErrArg, "New(%d) = %v, %d", room, a, err)
		b, err := cache.New[float32, any](room)
		fatalUnless(t, b == nil && err == api.ErrArg, "New(%d) = %v, %d", room, b, err)
	}
	for _, room := range []int{0, 1, 2, 255, api.MaxRoom - 1, api.MaxRoom} {
		x := fresh[int8, string](t, room)
		if room > 0 {
			x.put(t, 1, "one less", room-1)
			x.put(t, 2, "one", 1)
		}
		fatalUnless(t, x.put(t, 3, "whole", room), "what is as heavy as the room is not held")
		fatalUnless(t, !x.put(t, 4, "more", room+1), "what is heavier than the room is held")
	}
}

// P28.1: a Cache's zero value is one of room 0: what has no weight is held, all else is not.
func TestZeroValue(t *testing.T) {
	for _, x := range []*twins[string, int]{
		{new(cache.Cache[string, int]), &words[string, int]{}},
		fresh[string, int](t, 0),
	} {
		x.check(t, "nothing")
		fatalUnless(t, !x.drop(t, "a"), "Drop")
		x.get(t, "a")
		x.clear(t)
		fatalUnless(t, !x.put(t, "a", 1, 1) && !x.put(t, "a", 1, -1) && x.put(t, "a", 1, 0) && x.put(t, "b", 2, 0), "Put")
		x.get(t, "a")
		wantKeys(t, x.c, "a b", 0)
		fatalUnless(t, !x.put(t, "a", 3, 1), "Put")
		wantKeys(t, x.c, "b", 0)
		x.clear(t)
		x.play(t, source(281), []string{"", "a", "b", "c"}, 500, func(n int) int { return n })
	}
	f := new(cache.Cache[float64, int])
	wantPut(t, f, math.NaN(), 1, 0, false)
	wantKeys(t, f, "", 0)
}

// P28.4: of a cache that is not there.
func TestNoCache(t *testing.T) {
	var c *cache.Cache[string, int]
	for _, weight := range []int{-1, 0, 1, math.MaxInt} {
		wantPut(t, c, "a", 1, weight, false)
	}
	wantGet(t, c, "a", 0, false)
	fatalUnless(t, !c.Drop("a"), "Drop = true")
	c.Clear()
	wantKeys(t, c, "", 0)
	var f *cache.Cache[float64, *int]
	wantPut(t, f, math.NaN(), new(int), 0, false)
	wantGet(t, f, math.NaN(), nil, false)
	fatalUnless(t, !f.Drop(math.NaN()), "Drop = true")
}

// P28.2: a key that is not like itself changes nothing, whatever the weight is.
func TestKeyThatIsNotLikeItself(t *testing.T) {
	x := fresh[float64, int](t, 3)
	x.put(t, 1, 1, 1)
	x.put(t, math.Inf(1), 2, 1)
	x.put(t, 0, 3, 1)
	for _, weight := range []int{math.MinInt, -1, 0, 1, 3, 4, math.MaxInt} {
		for _, key := range []float64{math.NaN(), -math.NaN(), math.Float64frombits(0x7ff0000000000001), math.Float64frombits(math.MaxUint64)} {
			fatalUnless(t, !x.put(t, key, 9, weight), "a number that is none is held")
			x.get(t, key)
			x.drop(t, key)
		}
		wantKeys(t, x.c, "0 +Inf 1", 3)
	}
	type degrees float32
	y := fresh[degrees, int](t, 3)
	y.put(t, 1, 1, 3)
	fatalUnless(t, !y.put(t, degrees(math.NaN()), 9, 3), "a number that is none is held")
	wantKeys(t, y.c, "1", 3)
}

// P28.2: the two zeros are one key; the key that is told is the one that was put last.
func TestTwoZeros(t *testing.T) {
	minus := math.Copysign(0, -1)
	x := fresh[float64, int](t, 3)
	x.put(t, minus, 1, 1)
	wantKeys(t, x.c, "-0", 1)
	x.get(t, 0)
	wantKeys(t, x.c, "-0", 1)
	x.put(t, 0, 2, 2)
	wantKeys(t, x.c, "0", 2)
	x.get(t, minus)
	x.put(t, minus, 3, 3)
	wantKeys(t, x.c, "-0", 3)
	fatalUnless(t, x.drop(t, 0), "Drop = false")
	x.put(t, minus, 4, 1)
	fatalUnless(t, !x.put(t, 0, 5, 4), "Put = true")
	wantKeys(t, x.c, "", 0)
}

// P28.2: the entry of the key is given up whatever comes next, and makes room for its new one.
func TestPutInThePlaceOfAnother(t *testing.T) {
	for _, weight := range []int{math.MinInt, -1, 4, 5, math.MaxInt} {
		x := fresh[string, int](t, 3)
		x.put(t, "a", 1, 1)
		x.put(t, "b", 2, 1)
		x.put(t, "c", 3, 1)
		fatalUnless(t, !x.put(t, "b", 4, weight), "Put(%d) = true", weight)
		wantKeys(t, x.c, "c a", 2)
		fatalUnless(t, !x.put(t, "x", 4, weight), "Put(%d) = true", weight)
		wantKeys(t, x.c, "c a", 2)
	}
	x := fresh[string, int](t, 5)
	x.put(t, "a", 1, 3)
	x.put(t, "b", 2, 2)
	x.put(t, "a", 3, 3) // its own old weight is no hindrance
	wantKeys(t, x.c, "a b", 5)
	x.put(t, "b", 4, 0)
	wantKeys(t, x.c, "b a", 3)
	x.put(t, "a", 5, 5)
	wantKeys(t, x.c, "a b", 5)
	x.put(t, "b", 6, 1)
	wantKeys(t, x.c, "b", 1)
}

// P28.2: no more is given up than must be, and that from the end, also what has no weight; without need nothing is.
func TestWhatIsGivenUp(t *testing.T) {
	x := fresh[string, int](t, 10)
	laid := func() {
		x.clear(t)
		x.put(t, "none", 1, 0)
		x.put(t, "four", 2, 4)
		x.put(t, "nil", 3, 0)
		x.put(t, "three", 4, 3)
		x.put(t, "two", 5, 2)
		wantKeys(t, x.c, "two three nil four none", 9)
	}
	for _, y := range []struct {
		weight int
		keys   string
	}{
		{0, "new two three nil four none"}, {1, "new two three nil four none"}, {2, "new two three nil"}, {5, "new two three nil"}, {6, "new two"}, {8, "new two"}, {9, "new"}, {10, "new"},
	} {
		laid()
		fatalUnless(t, x.put(t, "new", 6, y.weight), "Put = false")
		fatalUnless(t, told(x.c.Keys()) == y.keys, "behind a Put of weight %d: %q, not %q", y.weight, told(x.c.Keys()), y.keys)
	}
	laid()
	x.get(t, "none")
	x.get(t, "four")
	x.put(t, "new", 6, 2)
	wantKeys(t, x.c, "new four none two", 8)
	x = fresh[string, int](t, api.MaxRoom)
	x.put(t, "a", 1, api.MaxRoom)
	x.put(t, "b", 2, api.MaxRoom)
	wantKeys(t, x.c, "b", api.MaxRoom)
	x.put(t, "a", 1, api.MaxRoom-1)
	x.put(t, "b", 2, 1)
	wantKeys(t, x.c, "b a", api.MaxRoom)
}

// P28.3: Get, Drop and Clear of what is there and of what is not, wherever it stands; a Get makes it the one used last.
func TestGetAndDrop(t *testing.T) {
	keys := []string{"a", "b", "c", "d", "e"}
	for i, key := range keys {
		x := fresh[string, int](t, 5)
		for n, k := range keys {
			x.put(t, k, 10+n, 1)
		}
		v, is := x.get(t, key)
		fatalUnless(t, v == 10+i && is && x.c.Keys()[0] == key, "Get %q = %d, %v", key, v, is)
		x.get(t, key)
		fatalUnless(t, x.drop(t, key) && !x.drop(t, key), "Drop")
		_, is = x.get(t, key)
		fatalUnless(t, !is && !slices.Contains(x.c.Keys(), key), "%q was dropped, and is told", key)
		x.get(t, "x")
		x.drop(t, "x")
		x.put(t, key, 99, 1)
		x.clear(t)
		x.get(t, key)
		x.drop(t, key)
		x.clear(t)
		x.put(t, key, 98, 5)
		v, is = x.get(t, key)
		fatalUnless(t, v == 98 && is, "Get %q = %d, %v", key, v, is)
	}
}

// P28.4: Keys and Weight change nothing, however often they are asked: what is given up next is the same.
func TestKeysAndWeightChangeNothing(t *testing.T) {
	x := fresh[int, int](t, 3)
	for n := range 50 {
		x.put(t, n%7, n, 1)
		was := told(x.c.Keys())
		for range 3 {
			fatalUnless(t, told(x.c.Keys()) == was && x.c.Weight() == min(n+1, 3), "Keys or Weight became others")
		}
	}
}

// A value is kept and handed out as it is: what it points to is not copied; a zero one is held as any other.
func TestValuesAreKeptAsTheyAre(t *testing.T) {
	lists, _ := cache.New[string, []byte](9)
	list := []byte("hello")
	lists.Put("a", list[:3], 1)
	list[0] = 'j'
	got, is := lists.Get("a")
	fatalUnless(t, is && string(got) == "jel" && cap(got) == cap(list), "%q, %v", got, is)
	got[1] = 'u'
	fatalUnless(t, string(list) == "jullo", "%q", list)
	again, is := lists.Get("a")
	fatalUnless(t, is && &again[0] == &list[0], "the list is another")
	lists.Put("none", nil, 1)
	got, is = lists.Get("none")
	fatalUnless(t, got == nil && is, "%v, %v", got, is)

	type big struct{ n *int }
	n := 1
	points, _ := cache.New[string, big](9)
	points.Put("a", big{&n}, 1)
	p, is := points.Get("a")
	fatalUnless(t, is && p.n == &n, "the pointer is another")

	anything, _ := cache.New[string, any](9)
	for _, v := range []any{nil, 0, "", false, struct{}{}, math.Inf(1), api.OK} {
		anything.Put("a", v, 1)
		wantGet(t, anything, "a", v, true)
	}
	calls, _ := cache.New[string, func() int](9)
	calls.Put("a", func() int { n++; return n }, 1)
	do, is := calls.Get("a")
	fatalUnless(t, is && do() == 2 && n == 2, "the function is another")
	none, is := calls.Get("b")
	fatalUnless(t, none == nil && !is, "there is a function of b")

	caches, _ := cache.New[string, *cache.Cache[string, int]](1)
	inner, _ := cache.New[string, int](1)
	caches.Put("a", inner, 1)
	inner.Put("b", 1, 1)
	c, _ := caches.Get("a")
	wantGet(t, c, "b", 1, true)
}

// P28.1 to P28.4, at random, against the chapter's words, of keys of all kinds.
func TestRandomPlays(t *testing.T) {
	number := func(n int) int { return n }
	type name string
	type degrees float32
	r := source(282)
	for range 60 {
		room := pick(r, 0, 1, 2, 3, 5, 8, 20, 1000, api.MaxRoom)
		fresh[string, int](t, room).play(t, r, []string{"", "\x00", "a", "ab", "b", "\xff", strings.Repeat("k", 300)}, 200, number)
		fresh[name, string](t, room).play(t, r, []name{"", "a", "b", "c"}, 200, func(n int) string { return fmt.Sprint(n) })
		fresh[int, int](t, room).play(t, r, []int{math.MinInt, -1, 0, 1, 2, 3, 4, 5, math.MaxInt}, 200, number)
		fresh[int8, any](t, room).play(t, r, []int8{-128, 0, 127}, 100, func(n int) any { return n })
		fresh[uint64, [2]int](t, room).play(t, r, []uint64{0, 1, math.MaxUint64}, 100, func(n int) [2]int { return [2]int{n, -n} })
		fresh[uintptr, bool](t, room).play(t, r, []uintptr{0, 1, 2}, 100, func(n int) bool { return n%3 == 0 })
		fresh[float64, int](t, room).play(t, r, []float64{math.NaN(), math.Copysign(0, -1), 0, math.Inf(-1), math.Inf(1), math.SmallestNonzeroFloat64, 1}, 200, number)
		fresh[degrees, float64](t, room).play(t, r, []degrees{degrees(math.NaN()), degrees(math.Copysign(0, -1)), 0, 1, degrees(math.Inf(1))}, 200, func(n int) float64 { return float64(n) / 2 })
	}
}

// A cache of very many entries, each call of which is a short one.
func TestVeryManyEntries(t *testing.T) {
	const many = 200000
	c, _ := cache.New[int, int](many / 2)
	for n := range many {
		wantPut(t, c, n, -n, 1, true)
	}
	fatalUnless(t, c.Weight() == many/2, "%d", c.Weight())
	for n := range many {
		v, is := c.Get(n)
		fatalUnless(t, is == (n >= many/2) && (v == -n || v == 0 && !is), "Get(%d) = %d, %v", n, v, is)
	}
	for n := range many {
		fatalUnless(t, c.Put(n, n, 0), "Put(%d) = false", n)
	}
	keys := c.Keys()
	fatalUnless(t, len(keys) == many && keys[0] == many-1 && keys[many-1] == 0 && c.Weight() == 0, "%d keys, %d", len(keys), c.Weight())
	wantPut(t, c, -1, 0, many/2, true)
	for n := range many {
		fatalUnless(t, c.Drop(n), "Drop(%d) = false", n)
	}
	wantKeys(t, c, "-1", many/2)
}

package cache_test

import (
	"cmp"
	"fmt"
	"math"
	"math/rand"
	"slices"
	"testing"

	"cairn/api"
	"cairn/cache"
)

func fatalUnless(t *testing.T, is bool, says string, args ...any) {
	t.Helper()
	if !is {
		t.Fatalf(says, args...)
	}
}

func source(seed int64) *rand.Rand { return rand.New(rand.NewSource(seed)) }

// pick is one of the list.
func pick[E any](r *rand.Rand, l ...E) E { return l[r.Intn(len(l))] }

// row is an entry of a cache by hand.
type row[K cmp.Ordered, V any] struct {
	key    K
	value  V
	weight int
}

// words is a cache by hand, in the chapter's words: its entries, the one used last first.
type words[K cmp.Ordered, V any] struct {
	room int
	rows []row[K, V]
}

func (w *words[K, V]) weight() (sum int) {
	for _, x := range w.rows {
		sum += x.weight
	}
	return sum
}

func (w *words[K, V]) keys() (keys []K) {
	for _, x := range w.rows {
		keys = append(keys, x.key)
	}
	return keys
}

// is tells which entry has the key, -1: none.
func (w *words[K, V]) is(key K) int {
	return slices.IndexFunc(w.rows, func(x row[K, V]) bool { return key == key && cmp.Compare(x.key, key) == 0 })
}

func (w *words[K, V]) drop(key K) bool {
	i := w.is(key)
	if i < 0 {
		return false
	}
	w.rows = slices.Concat(w.rows[:i], w.rows[i+1:])
	return true
}

func (w *words[K, V]) put(key K, v V, weight int) bool {
	if key != key {
		return false
	}
	w.drop(key)
	if weight < 0 || weight > w.room {
		return false
	}
	for w.weight()+weight > w.room {
		w.rows = w.rows[:len(w.rows)-1]
	}
	w.rows = slices.Concat([]row[K, V]{{key, v, weight}}, w.rows)
	return true
}

func (w *words[K, V]) get(key K) (v V, is bool) {
	i := w.is(key)
	if i < 0 {
		return v, false
	}
	x := w.rows[i]
	w.drop(key)
	w.rows = slices.Concat([]row[K, V]{x}, w.rows)
	return x.value, true
}

func (w *words[K, V]) clear() { w.rows = nil }

// twins is a cache and one by hand.
type twins[K cmp.Ordered, V comparable] struct {
	c *cache.Cache[K, V]
	w *words[K, V]
}

func fresh[K cmp.Ordered, V comparable](t *testing.T, room int) *twins[K, V] {
	t.Helper()
	c, err := cache.New[K, V](room)
	fatalUnless(t, c != nil && err == api.OK, "New(%d) = %v, %d", room, c, err)
	x := &twins[K, V]{c, &words[K, V]{room: room}}
	x.check(t, "New(%d)", room)
	return x
}

// check wants both to hold the same, down to the zeros' signs.
func (x *twins[K, V]) check(t *testing.T, says string, args ...any) {
	t.Helper()
	keys, weight := x.c.Keys(), x.c.Weight()
	is := len(keys) == len(x.w.rows) && weight == x.w.weight()
	for i := range keys {
		is = is && fmt.Sprint(keys[i]) == fmt.Sprint(x.w.rows[i].key)
	}
	fatalUnless(t, is, "behind %s: %v, %d, not %v, %d", fmt.Sprintf(says, args...), keys, weight, x.w.keys(), x.w.weight())
}

func (x *twins[K, V]) put(t *testing.T, key K, v V, weight int) bool {
	t.Helper()
	got, want := x.c.Put(key, v, weight), x.w.put(key, v, weight)
	fatalUnless(t, got == want, "Put(%v, %v, %d) = %v", key, v, weight, got)
	x.check(t, "Put(%v, %v, %d)", key, v, weight)
	return got
}

func (x *twins[K, V]) get(t *testing.T, key K) (V, bool) {
	t.Helper()
	v, is := x.c.Get(key)
	want, has := x.w.get(key)
	fatalUnless(t, v == want && is == has, "Get(%v) = %v, %v, not %v, %v", key, v, is, want, has)
	x.check(t, "Get(%v)", key)
	return v, is
}

func (x *twins[K, V]) drop(t *testing.T, key K) bool {
	t.Helper()
	got, want := x.c.Drop(key), x.w.drop(key)
	fatalUnless(t, got == want, "Drop(%v) = %v", key, got)
	x.check(t, "Drop(%v)", key)
	return got
}

func (x *twins[K, V]) clear(t *testing.T) {
	t.Helper()
	x.c.Clear()
	x.w.clear()
	x.check(t, "Clear")
}

// someWeight is a weight for a cache of that room, now and then one that may not be.
func someWeight(r *rand.Rand, room int) int {
	if r.Intn(12) == 0 {
		return pick(r, -1, room+1, math.MinInt, math.MaxInt, -room-1, room)
	}
	return pick(r, 0, 1, 1, r.Intn(room/2+1), r.Intn(room+1))
}

// play does something to both, at random: the values are numbers of their own.
func (x *twins[K, V]) play(t *testing.T, r *rand.Rand, keys []K, steps int, value func(n int) V) {
	t.Helper()
	for n := range steps {
		key := pick(r, keys...)
		switch what := r.Intn(40); {
		case what < 20:
			x.put(t, key, value(n+1), someWeight(r, x.w.room))
		case what < 33:
			x.get(t, key)
		case what < 39:
			x.drop(t, key)
		default:
			x.clear(t)
		}
	}
}

package cache_test

import (
	"cmp"
	"math"
	"math/rand"
	"slices"
	"testing"

	"cairn/api"
	"cairn/cache"
)

// within tells whether all keys of the one list are among those of the other one, in the same order.
func within[K cmp.Ordered](few, many []K) bool {
	for _, k := range many {
		if len(few) > 0 && cmp.Compare(few[0], k) == 0 {
			few = few[1:]
		}
	}
	return len(few) == 0
}

// pile is caches of rising rooms to which the same is done.
type pile[K cmp.Ordered] []*cache.Cache[K, int]

func piled[K cmp.Ordered](t *testing.T, rooms ...int) (p pile[K]) {
	t.Helper()
	for _, room := range rooms {
		c, err := cache.New[K, int](room)
		fatalUnless(t, err == api.OK, "New(%d): %d", room, err)
		p = append(p, c)
	}
	return p
}

// stands wants each cache's keys to be among those of all with more room.
func (p pile[K]) stands(t *testing.T, says string, key K) {
	t.Helper()
	for i := range p {
		for j := range p[i:] {
			few, many := p[i].Keys(), p[i+j].Keys()
			fatalUnless(t, within(few, many), "behind %s %v: %v, and with more room %v", says, key, few, many)
		}
	}
}

// get asks all: where one tells a value, those with more room tell the same.
func (p pile[K]) get(t *testing.T, key K) {
	t.Helper()
	for i := range p {
		low, is := p[i].Get(key)
		for j := range i {
			v, has := p[j].Get(key)
			fatalUnless(t, !has || is && v == low, "Get(%v) = %d, %v, and with more room %d, %v", key, v, has, low, is)
		}
	}
}

// play does the same to all, at random; each Put has weight 1.
func (p pile[K]) play(t *testing.T, r *rand.Rand, keys []K, steps int) {
	t.Helper()
	for n := range steps {
		key := pick(r, keys...)
		switch what := r.Intn(60); {
		case what < 30:
			for i, c := range p {
				is := c.Put(key, n, 1)
				fatalUnless(t, i == 0 || is == (key == key), "Put(%v) = %v", key, is)
			}
			p.stands(t, "Put", key)
		case what < 52:
			p.get(t, key)
			p.stands(t, "Get", key)
		case what < 59:
			for _, c := range p {
				c.Drop(key)
			}
			p.stands(t, "Drop", key)
		default:
			for _, c := range p {
				c.Clear()
			}
			p.stands(t, "Clear", key)
		}
	}
}

// P28.7: of caches with unlike rooms to which the same is done, each holds what those with less room hold, in the same order.
func TestLeastRecentlyUsedIsAStack(t *testing.T) {
	r := source(283)
	var many []int
	for n := range 30 {
		many = append(many, n)
	}
	for range 40 {
		piled[int](t, 0, 1, 2, 3, 3, 4, 7, 12, 29, 30, 31, api.MaxRoom).play(t, r, many, 300)
		piled[string](t, 0, 1, 2, 5, 6, 7).play(t, r, []string{"", "a", "b", "c", "d", "e"}, 200)
		piled[float64](t, 0, 1, 2, 3, 4).play(t, r, []float64{math.NaN(), 0, math.Copysign(0, -1), 1, 2}, 200)
	}
}

// P28.7: with room for all of them, the keys are all that were put or asked for, by their last use.
func TestWithRoomForAll(t *testing.T) {
	r := source(284)
	for range 50 {
		c, _ := cache.New[int, int](20)
		var used []int
		for n := range 200 {
			key := r.Intn(20)
			if r.Intn(2) == 0 {
				c.Put(key, n, 1)
			} else if _, is := c.Get(key); !is {
				continue
			}
			used = slices.Concat([]int{key}, slices.DeleteFunc(used, func(k int) bool { return k == key }))
			fatalUnless(t, slices.Equal(c.Keys(), used), "%v, not %v", c.Keys(), used)
		}
	}
}

// P28.8: what Get tells is what was put under the key last; the weights of the entries are Weight together, and at most the room.
func TestWhatGetTells(t *testing.T) {
	r := source(285)
	type last struct{ value, weight int }
	for range 300 {
		room := pick(r, 0, 1, 3, 10, 40, api.MaxRoom)
		c, _ := cache.New[uint8, int](room)
		put := map[uint8]last{}
		hits := 0
		for n := range 150 {
			key := uint8(r.Intn(12))
			switch r.Intn(6) {
			case 0, 1, 2:
				weight := someWeight(r, room)
				is := c.Put(key, n, weight)
				fatalUnless(t, is == (0 <= weight && weight <= room), "Put of the weight %d into the room %d = %v", weight, room, is)
				delete(put, key)
				if is {
					put[key] = last{n, weight}
				}
			case 3, 4:
				v, is := c.Get(key)
				x, was := put[key]
				fatalUnless(t, !is && v == 0 || was && v == x.value, "Get(%d) = %d, %v, and %d was put", key, v, is, x.value)
				if is {
					hits++
				}
			default:
				c.Drop(key)
				delete(put, key)
			}
			sum := 0
			for _, k := range c.Keys() {
				x, was := put[k]
				fatalUnless(t, was, "%d is held, and was not put", k)
				sum += x.weight
			}
			fatalUnless(t, sum == c.Weight() && 0 <= sum && sum <= room, "Weight = %d, of %d, in the room %d", c.Weight(), sum, room)
		}
		fatalUnless(t, hits > 0 || room == 0, "nothing is ever told")
	}
}

// P28.2, P28.8: no two entries have the same key, and what stands is told, all of it.
func TestKeysAreTheEntries(t *testing.T) {
	r := source(286)
	for range 200 {
		room := r.Intn(12)
		c, _ := cache.New[int, int](room)
		for n := range 60 {
			c.Put(r.Intn(9), n, someWeight(r, room))
			c.Get(r.Intn(9))
		}
		keys := c.Keys()
		for i, k := range keys {
			fatalUnless(t, !slices.Contains(keys[:i], k), "%v", keys)
		}
		for k := range 9 {
			_, is := c.Get(k)
			fatalUnless(t, is == slices.Contains(keys, k), "Get(%d) = %v, of %v", k, is, keys)
			if is {
				fatalUnless(t, c.Keys()[0] == k && len(c.Keys()) == len(keys), "%v, behind a Get of %d", c.Keys(), k)
			}
		}
	}
}

package cache_test

import (
	"fmt"
	"runtime"
	"slices"
	"strings"
	"sync"
	"testing"
	"unsafe"
	"weak"

	"cairn/api"
	"cairn/cache"
	"cairn/store"
)

// spoil overwrites a list with the room behind it.
func spoil[E any](l []E, with E) {
	l = l[:cap(l)]
	for i := range l {
		l[i] = with
	}
}

// P28.10: the bytes that are handed in stay as they were, with the room behind them, and are not kept, whatever is answered.
func TestWhatIsHandedInStaysAsItWas(t *testing.T) {
	p := fresh3(t, 100)
	for _, x := range []struct {
		key, data string
		want      api.Errno
	}{
		{"a", "hello", api.OK}, {"a", "hello", api.ErrExists}, {"", "hello", api.ErrKey}, {"empty", "", api.OK}, {"great", strings.Repeat("x", 1<<15+1), api.ErrLarge}, {"heavy", strings.Repeat("x", 200), api.OK}, {"b", "you", api.OK},
	} {
		data := append([]byte(x.data), "behind"...)
		number := p.front.Put(x.key, data[:len(x.data)])
		fatalUnless(t, number == x.want, "Put %q = %d, not %d", x.key, number, x.want)
		fatalUnless(t, string(data) == x.data+"behind", "the bytes became others")
		spoil(data, 'X')
	}
	for range 3 {
		for key, want := range map[string]string{"a": "hello", "b": "you", "empty": "", "heavy": strings.Repeat("x", 200)} {
			data, number := p.front.Get(key)
			fatalUnless(t, string(data) == want && number == api.OK, "Get %q = %q, %d", key, data, number)
		}
	}
}

// P28.10: what Get answers is new memory, out of the store and out of the cache: a caller may overwrite it, with the room behind it, and put something behind it.
func TestAnswersAreNewMemory(t *testing.T) {
	for _, held := range []bool{true, false} {
		for _, room := range []int{100, 0} {
			p := fresh3(t, room)
			for _, want := range []string{"", "x", "hello", strings.Repeat("long ", 15)} {
				key := fmt.Sprint("k", len(want))
				fatalUnless(t, p.front.Put(key, []byte(want)) == api.OK, "Put")
				if !held {
					p.front.Heal() // the first Get is out of the store
				}
				var all [][]byte
				for range 4 {
					data, number := p.front.Get(key)
					fatalUnless(t, string(data) == want && number == api.OK, "Get = %q, %d", data, number)
					all = append(all, data)
				}
				for i, data := range all {
					for _, other := range all[i+1:] {
						fatalUnless(t, string(other) == want, "two answers share bytes: %q", other)
					}
					spoil(data, byte('A'+i))
				}
				again, number := p.front.Get(key)
				fatalUnless(t, string(again) == want && number == api.OK, "Get = %q, %d", again, number)
			}
		}
	}
}

// P28.10: so are Keys and Held.
func TestListsAreNewMemory(t *testing.T) {
	p := fresh3(t, 100)
	c, _ := cache.New[string, int](10)
	for _, key := range []string{"a", "b", "c"} {
		c.Put(key, 1, 1)
		p.front.Put(key, nil)
	}
	for _, x := range []struct {
		ask func() []string
		use func()
	}{{c.Keys, func() { c.Get("a") }}, {p.front.Held, func() { p.front.Get("a") }}} {
		var all [][]string
		for range 4 {
			all = append(all, x.ask())
		}
		for i, keys := range all {
			for _, l := range all[i:] {
				fatalUnless(t, slices.Equal(l, []string{"c", "b", "a"}), "%q", l)
			}
			spoil(keys, "X")
		}
		keys := x.ask()
		x.use()
		fatalUnless(t, slices.Equal(keys, []string{"c", "b", "a"}) && slices.Equal(x.ask(), []string{"a", "c", "b"}), "%q, %q", keys, x.ask())
	}
}

// P28.9, P28.10: a drive that can reach the bytes and turns them in some round of the Put: what is held is what was handed in, and what stands.
func TestDrivesTurnTheBytes(t *testing.T) {
	for round := range 3 {
		p := fresh3(t, 100)
		data := []byte("hello")
		began := p.mine[0].rounds
		p.mine[0].over = func(now int) {
			if now == began+round {
				spoil(data, 'X')
			}
		}
		fatalUnless(t, p.front.Put("a", data) == api.OK, "Put")
		fatalUnless(t, (string(data) == "hello") == (round == 2), "round %d: %q", round, data)
		held, number := p.front.Get("a")
		fatalUnless(t, string(held) == "hello" && number == api.OK, "round %d: Get = %q, %d", round, held, number)
		stands, err := p.store.Get("a")
		fatalUnless(t, string(stands) == "hello" && err == nil, "round %d: the store's Get = %q, %v", round, stands, err)
	}
}

// P28.9: what the drives tell is theirs: what they make of it later is not held.
func TestDrivesTurnWhatTheyTold(t *testing.T) {
	p := fresh3(t, 100)
	fatalUnless(t, p.front.Put("a", []byte("hello")) == api.OK, "Put")
	p.front.Heal()
	data, number := p.front.Get("a")
	fatalUnless(t, string(data) == "hello" && number == api.OK, "Get = %q, %d", data, number)
	for _, l := range p.mine {
		for _, b := range l.files {
			spoil(b, 'X')
		}
	}
	again, number := p.front.Get("a")
	fatalUnless(t, string(again) == "hello" && string(data) == "hello" && number == api.OK, "Get = %q, %d", again, number)
}

// P28.10: a key that is a piece of a great text does not hold that text.
func TestKeysAreTheirOwn(t *testing.T) {
	p := fresh3(t, 100)
	text := strings.Repeat("a great text ", 100)
	key := text[13:20]
	is := func(says string) {
		t.Helper()
		held := p.front.Held()
		fatalUnless(t, slices.Equal(held, []string{key}), "%s: %q are held", says, held)
		at, from := uintptr(unsafe.Pointer(unsafe.StringData(held[0]))), uintptr(unsafe.Pointer(unsafe.StringData(text)))
		fatalUnless(t, at < from || at >= from+uintptr(len(text)), "%s: the key is a piece of the text", says)
	}
	p.front.Put(key, []byte("hello"))
	is("Put")
	p.front.Heal()
	p.front.Get(key)
	is("Get out of the store")
	p.front.Get(key)
	is("Get out of the cache")
}

// What is given up is let go: nothing keeps its value.
func TestWhatIsGivenUpIsLetGo(t *testing.T) {
	type big [1 << 10]int
	for name, do := range map[string]func(c *cache.Cache[string, *big]){
		"Put in its place":    func(c *cache.Cache[string, *big]) { c.Put("b", new(big), 1) },
		"Put, refused":        func(c *cache.Cache[string, *big]) { c.Put("b", new(big), 6) },
		"Put below 0":         func(c *cache.Cache[string, *big]) { c.Put("b", new(big), -1) },
		"Put beside it":       func(c *cache.Cache[string, *big]) { c.Put("d", new(big), 4) },
		"Drop":                func(c *cache.Cache[string, *big]) { c.Drop("b") },
		"Clear":               func(c *cache.Cache[string, *big]) { c.Clear() },
		"Drop, behind a Get":  func(c *cache.Cache[string, *big]) { c.Get("b"); c.Drop("b") },
		"Clear, behind a Get": func(c *cache.Cache[string, *big]) { c.Get("b"); c.Clear() },
	} {
		c, _ := cache.New[string, *big](5)
		c.Put("a", new(big), 1)
		v := new(big)
		gone := weak.Make(v)
		c.Put("b", v, 1)
		c.Put("c", new(big), 1)
		runtime.GC()
		fatalUnless(t, gone.Value() != nil, "%s: it is gone before", name)
		v = nil
		do(c)
		for try := 0; try < 10 && gone.Value() != nil; try++ {
			runtime.GC()
		}
		fatalUnless(t, gone.Value() == nil, "%s: it is kept", name)
		runtime.KeepAlive(c)
	}
}

// P28.10: caches and fronts share nothing: two that are made alike, each played with for itself.
func TestCachesShareNothing(t *testing.T) {
	r := source(289)
	number := func(n int) int { return n }
	a, b := fresh[string, int](t, 5), fresh[string, int](t, 5)
	for range 50 {
		a.play(t, r, []string{"a", "b", "c"}, 10, number)
		b.check(t, "another's play")
		b.play(t, r, []string{"a", "b", "c"}, 10, number)
		a.check(t, "another's play")
	}
}

// A cache or a front that was copied as a Go value is the same one, whole: nothing panics, and no half of it is left behind.
func TestCopiesAreWhole(t *testing.T) {
	r := source(290)
	for range 100 {
		x := fresh[int, int](t, 4)
		same := *x.c
		twin := &twins[int, int]{&same, x.w}
		for range 40 {
			pick(r, x, twin).play(t, r, []int{1, 2, 3, 4, 5, 6}, 3, func(n int) int { return n })
			x.check(t, "a copy's play")
			twin.check(t, "the other's play")
		}
	}
	p := fresh3(t, 20)
	same := *p.front
	fatalUnless(t, p.front.Put("a", []byte("hello")) == api.OK && same.Delete("a") == api.OK, "Put, Delete")
	_, number := p.front.Get("a")
	fatalUnless(t, number == api.ErrNotFound, "Get = %d", number)
	fatalUnless(t, same.Put("a", []byte("you")) == api.OK, "Put")
	data, number := p.front.Get("a")
	fatalUnless(t, string(data) == "you" && number == api.OK && slices.Equal(p.front.Held(), []string{"a"}), "Get = %q, %d", data, number)
}

// Many caches and fronts at one time, each for itself, answer as one does; and many may ask one cache for its Keys and its Weight.
func TestManyAtOneTime(t *testing.T) {
	c, _ := cache.New[int, int](9)
	for n := range 5 {
		c.Put(n, n, 2)
	}
	var all sync.WaitGroup
	for n := range int64(8) {
		all.Go(func() {
			r := source(n)
			own, _ := cache.New[int, int](9)
			w := &words[int, int]{room: 9}
			s, err := store.Create(disksOf(patients(3, 1<<16)), small(), theStore())
			f, number := cache.Before(s, 30)
			if err != nil || number != api.OK {
				t.Errorf("Create: %v; Before: %d", err, number)
				return
			}
			for i := range 300 {
				key := r.Intn(6)
				if own.Put(key, i, i%4) != w.put(key, i, i%4) || !slices.Equal(own.Keys(), w.keys()) {
					t.Errorf("many at one time are answered otherwise than one")
					return
				}
				text := fmt.Sprint(n, i)
				f.Put("a", []byte(text))
				data, _ := f.Get("a")
				if string(data) != text || f.Delete("a") != api.OK || !slices.Equal(c.Keys(), []int{4, 3, 2, 1}) || c.Weight() != 8 {
					t.Errorf("many at one time are answered otherwise than one")
					return
				}
			}
		})
	}
	all.Wait()
}

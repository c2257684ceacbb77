package cache_test

import (
	"math"
	"slices"
	"strings"
	"testing"

	"cairn/api"
	"cairn/cache"
	"cairn/store"
)

// fresh3 are fronts of that room before new stores of three drives, as in the chapter's examples.
func fresh3(t *testing.T, room int) *pair[*spy] {
	t.Helper()
	return paired(t, small(), room, func() []*spy { return spies(3) })
}

// The chapter's examples, the rows of a front.
func TestFrontExamples(t *testing.T) {
	w := patients(3, 4096)
	s, err := store.Create(disksOf(w), small(), theStore())
	fatalUnless(t, err == nil, "Create: %v", err)
	power := func(on bool) {
		for _, x := range w {
			x.Power(on)
		}
	}
	f, number := cache.Before(s, 10)
	fatalUnless(t, f != nil && number == 0, "Before = %v, %d", f, number)
	is := func(c call, data string, number api.Errno, held ...string) {
		t.Helper()
		a := ask(f, c)
		fatalUnless(t, a == answer{data: data, number: number} && slices.Equal(f.Held(), held), "%+v = %+v, %q", c, a, f.Held())
	}
	is(call{"put", "a", "hello"}, "", 0, "a")
	power(false)
	is(call{op: "get", key: "a"}, "hello", 0, "a")
	is(call{op: "get", key: "b"}, "", 122, "a")
	power(true)
	is(call{"put", "a", "x"}, "", 190)
	is(call{op: "get", key: "a"}, "hello", 0, "a")
	is(call{op: "delete", key: "a"}, "", 0)
	is(call{op: "get", key: "a"}, "", 200)
	f, _ = cache.Before(s, 5)
	is(call{"put", "k", "hello"}, "", 0)
	is(call{op: "get", key: "k"}, "hello", 0)
}

// P28.5: ErrNil ahead of ErrArg; the rooms that may be, and those that may not. No drive is called.
func TestBefore(t *testing.T) {
	l := spies(3)
	s, err := store.Create(disksOf(l), small(), theStore())
	fatalUnless(t, err == nil, "Create: %v", err)
	for _, x := range l {
		x.news()
	}
	for _, room := range []int{math.MinInt, -1, 0, 1, api.MaxRoom - 1, api.MaxRoom, api.MaxRoom + 1, math.MaxInt} {
		f, number := cache.Before(nil, room)
		fatalUnless(t, f == nil && number == api.ErrNil, "Before(nil, %d) = %v, %d", room, f, number)
		for _, s := range []*store.Store{s, {}} { // of a store that is not open, too
			f, number = cache.Before(s, room)
			if 0 <= room && room <= api.MaxRoom {
				fatalUnless(t, f != nil && number == api.OK && len(f.Held()) == 0, "Before(%d) = %v, %d", room, f, number)
			} else {
				fatalUnless(t, f == nil && number == api.ErrArg, "Before(%d) = %v, %d", room, f, number)
			}
		}
	}
	for _, x := range l {
		fatalUnless(t, x.news() == "", "a drive was called")
	}
}

// P28.6: of a front that is not there, and of a Front's zero value.
func TestNoFront(t *testing.T) {
	for _, f := range []*cache.Front{nil, {}} {
		for _, op := range []string{"put", "get", "delete", "heal"} {
			for _, key := range []string{"", "a", strings.Repeat("k", 256)} {
				a := ask(f, call{op, key, "hello"})
				fatalUnless(t, a == answer{number: api.ErrNil}, "%s = %+v", op, a)
				fatalUnless(t, len(f.Held()) == 0, "%q are held", f.Held())
			}
		}
	}
}

// P28.6: what each call tells, holds, and asks of the drives, where all goes well.
func TestFront(t *testing.T) {
	p := fresh3(t, 20)
	p.number(t, call{"put", "a", "hello"}, api.OK)
	p.number(t, call{"put", "b", "you"}, api.OK)
	p.held(t, "b", "a")
	a := p.number(t, call{op: "get", key: "a"}, api.OK)
	fatalUnless(t, a.data == "hello", "%q", a.data)
	p.held(t, "a", "b") // the one used last is told first
	p.number(t, call{op: "get", key: "c"}, api.ErrNotFound)
	p.number(t, call{op: "delete", key: "c"}, api.ErrNotFound)
	p.held(t, "a", "b")
	p.number(t, call{"put", "c", "how are you"}, api.OK) // 12 bytes with 10 are more than 20
	p.held(t, "c", "a")
	p.number(t, call{op: "get", key: "b"}, api.OK)
	p.held(t, "b", "c")
	p.number(t, call{op: "delete", key: "c"}, api.OK)
	p.held(t, "b")
	p.number(t, call{op: "get", key: "c"}, api.ErrNotFound)
	p.number(t, call{"put", "c", "anew"}, api.OK)
	p.held(t, "c", "b")
	p.number(t, call{"put", "c", "again"}, api.ErrExists)
	p.held(t, "b")
	a = p.number(t, call{op: "get", key: "c"}, api.OK)
	fatalUnless(t, a.data == "anew", "%q", a.data)
	p.held(t, "c", "b")
	a = p.number(t, call{op: "heal"}, api.OK)
	fatalUnless(t, a.healed == api.Healed{Keys: 3}, "%+v", a.healed)
	p.held(t)
	p.number(t, call{op: "get", key: "a"}, api.OK)
	p.held(t, "a")
}

// P28.6: what no key is, and what does not fit, is refused as the store does, and never held; the empty object is held.
func TestFrontAtTheLimits(t *testing.T) {
	p := paired(t, small(), api.MaxRoom, func() []*spy { return spies(3) })
	most := small().K * small().Block * api.MaxBlocks
	long := strings.Repeat("k", api.MaxKey)
	for _, key := range []string{"", long + "k"} {
		for _, op := range []string{"put", "get", "delete"} {
			p.number(t, call{op, key, "hello"}, api.ErrKey)
			p.held(t)
		}
	}
	p.number(t, call{"put", "a", strings.Repeat("x", most+1)}, api.ErrLarge)
	p.number(t, call{"put", "a", strings.Repeat("x", api.MaxObject+1)}, api.ErrLarge)
	p.held(t)
	p.number(t, call{"put", long, strings.Repeat("x", most)}, api.OK)
	p.number(t, call{"put", "a", ""}, api.OK)
	p.number(t, call{"put", "\x00\xff", "\x00"}, api.OK)
	p.held(t, "\x00\xff", "a", long)
	for _, key := range p.front.Held() {
		p.number(t, call{op: "get", key: key}, api.OK)
	}
	p.held(t, long, "a", "\x00\xff")
	p.number(t, call{"put", long, strings.Repeat("x", most+1)}, api.ErrLarge)
	p.held(t, "a", "\x00\xff") // it is dropped, whatever the store then says
	p.number(t, call{op: "get", key: long}, api.OK)
	p.held(t, long, "a", "\x00\xff")
}

// P28.5: an entry's weight is the number of its key's bytes and its own together, at the edge.
func TestWeightOfAnEntry(t *testing.T) {
	for _, key := range []string{"k", "key", strings.Repeat("k", 255)} {
		for _, data := range []string{"", "x", "hello"} {
			weight := len(key) + len(data)
			for _, room := range []int{0, len(key) - 1, len(key), len(data), weight - 1, weight, weight + 1, 2*weight - 1, 2 * weight} {
				p := fresh3(t, room)
				p.number(t, call{"put", key, data}, api.OK)
				fatalUnless(t, (len(p.front.Held()) == 1) == (weight <= room), "of weight %d in the room %d: %q", weight, room, p.front.Held())
				p.number(t, call{op: "get", key: key}, api.OK)
				fatalUnless(t, (len(p.front.Held()) == 1) == (weight <= room), "of weight %d in the room %d: %q", weight, room, p.front.Held())
				other := strings.Repeat("o", len(key))
				p.number(t, call{"put", other, data}, api.OK)
				fatalUnless(t, (len(p.front.Held()) == 2) == (2*weight <= room), "twice %d in the room %d: %q", weight, room, p.front.Held())
			}
		}
	}
}

// P28.6, P28.9: what the cache has is told, and no drive is called for it: whether the power is off, all drives are gone, or the store is stopped or closed. All else is the store's answer.
func TestWhatIsHeldIsTold(t *testing.T) {
	for name, x := range map[string]struct {
		number api.Errno
		make   func(s *store.Store, l []*spy)
	}{
		"down":    {api.ErrDown, func(_ *store.Store, l []*spy) { l[0].off, l[1].off, l[2].off = true, true, true }},
		"offline": {api.ErrQuorum, func(_ *store.Store, l []*spy) { at(api.ErrOffline, []int{0, 1, 2}, "")(l[0].rounds, nil, l) }},
		"stopped": {api.ErrStopped, func(s *store.Store, _ []*spy) { s.Stop() }},
		"closed":  {api.ErrClosed, func(s *store.Store, _ []*spy) { s.Close() }},
	} {
		p := fresh3(t, 100)
		p.number(t, call{"put", "a", "hello"}, api.OK)
		p.number(t, call{"put", "empty", ""}, api.OK)
		p.number(t, call{"put", "c", "x"}, api.OK)
		p.each(x.make)
		for range 2 {
			a := p.number(t, call{op: "get", key: "a"}, api.OK)
			fatalUnless(t, a.data == "hello", "%s: %q", name, a.data)
			a = p.number(t, call{op: "get", key: "empty"}, api.OK)
			fatalUnless(t, a.data == "", "%s: %q", name, a.data)
			for _, l := range p.mine {
				fatalUnless(t, l.news() == "", "%s: a drive was called", name)
			}
		}
		p.held(t, "empty", "a", "c")
		if name != "offline" { // these hold but in one round
			p.number(t, call{op: "get", key: "b"}, x.number)
			p.held(t, "empty", "a", "c")
		}
		p.number(t, call{"put", "a", "more"}, x.number)
		p.held(t, "empty", "c")
	}
}

// at makes the calls of these drives in the round that begin with one of the words be answered so.
func at(err api.Errno, drives []int, words ...string) func(round int, s *store.Store, l []*spy) {
	return func(round int, _ *store.Store, l []*spy) {
		for _, i := range drives {
			l[i].fate = func(now int, says string) (api.Errno, bool) {
				return err, now == round && slices.ContainsFunc(words, func(w string) bool { return strings.HasPrefix(says, w) })
			}
		}
	}
}

// trouble is something that happens in one of a call's rounds, which is told: to drives that are alike, so that the same happens to both stores.
type trouble struct {
	name string
	make func(round int, s *store.Store, l []*spy)
}

func troubles() []trouble {
	all, two, one := []int{0, 1, 2}, []int{0, 2}, []int{1}
	return []trouble{
		{"nothing", func(int, *store.Store, []*spy) {}},
		{"all offline", at(api.ErrOffline, all, "")},
		{"two offline", at(api.ErrOffline, two, "")},
		{"one offline", at(api.ErrIO, one, "")},
		{"all missing", at(api.ErrMissing, all, "Read")},
		{"full", at(api.ErrFull, one, "Create", "Append")},
		{"not away", at(api.ErrIO, two, "Remove", "SyncDir")},
		{"untold", at(api.ErrIO, two, "List")},
		{"dark", at(api.ErrDown, one, "")},
		{"down", func(round int, _ *store.Store, l []*spy) {
			l[1].struck = func(now int) bool { return now == round }
		}},
		{"stopped", func(round int, s *store.Store, l []*spy) {
			l[0].over = func(now int) {
				if now == round {
					s.Stop()
				}
			}
		}},
	}
}

// P28.6: whatever happens in whichever round of a call, the front asks the store, holds and answers just what the chapter says; and so the next calls.
func TestTroubleInEachRound(t *testing.T) {
	met := map[string]int{}
	for _, c := range []call{
		{"put", "new", "hello"}, {"put", "held", "hello"}, {"put", "stands", "hello"}, {"put", "gone", "hello"},
		{op: "get", key: "held"}, {op: "get", key: "stands"}, {op: "get", key: "gone"},
		{op: "delete", key: "held"}, {op: "delete", key: "stands"}, {op: "delete", key: "gone"}, {op: "heal"},
	} {
		for _, x := range troubles() {
			for round := 0; ; round++ {
				p := fresh3(t, 30)
				p.number(t, call{"put", "stands", "x"}, api.OK)
				p.number(t, call{"put", "gone", "x"}, api.OK)
				p.number(t, call{op: "delete", key: "gone"}, api.OK)
				p.number(t, call{op: "heal"}, api.OK)
				p.number(t, call{"put", "held", "you"}, api.OK)
				p.number(t, call{"put", "other", "x"}, api.OK)
				p.held(t, "other", "held")
				began := p.mine[0].rounds
				p.each(func(s *store.Store, l []*spy) { x.make(began+round, s, l) })
				a := p.check(t, c)
				met[c.op+" "+a.number.Error()]++
				fatalUnless(t, a.number == api.OK || !slices.Contains(p.front.Held(), c.key), "%+v = %+v, and it is held", c, a)
				if p.mine[0].rounds <= began+round || x.name == "nothing" {
					break // it had no such round
				}
				p.check(t, call{op: "get", key: c.key})
				p.check(t, c)
				for _, key := range []string{"held", "stands", "new", "gone", "held"} {
					p.check(t, call{op: "get", key: key})
				}
			}
		}
	}
	for op, numbers := range map[string][]api.Errno{
		"put":    {0, 122, 160, 170, 190},
		"get":    {0, 122, 170, 200},
		"delete": {0, 122, 160, 170, 200},
		"heal":   {0, 122, 160, 230},
	} {
		for _, number := range numbers {
			fatalUnless(t, met[op+" "+number.Error()] > 0, "%s %d: %v", op, number, met)
		}
	}
}

// P28.6: Heal tells what was done beside an error, too, and the cache is cleared whatever it answers.
func TestHealBesideAnError(t *testing.T) {
	p := paired(t, api.Shape{K: 2, M: 2, Block: 4}, 100, func() []*patient { return patients(4, 4096) })
	p.number(t, call{"put", "a", "hello"}, api.OK)
	p.number(t, call{"put", "b", "x"}, api.OK)
	p.each(func(_ *store.Store, l []*patient) {
		l[1].Offline(true)
		l[2].Wipe()
	})
	p.held(t, "b", "a")
	a := p.number(t, call{op: "heal"}, api.ErrDegraded)
	fatalUnless(t, a.healed == api.Healed{Written: 2, Keys: 2}, "%+v", a.healed)
	p.held(t)
	p.number(t, call{op: "get", key: "a"}, api.OK)
	p.each(func(s *store.Store, _ []*patient) { s.Stop() })
	a = p.number(t, call{op: "heal"}, api.ErrStopped)
	fatalUnless(t, a.healed == api.Healed{}, "%+v", a.healed)
	p.held(t)
	p.number(t, call{op: "get", key: "a"}, api.ErrStopped)
}

// P28.5: two fronts before one store have a cache each.
func TestTwoFronts(t *testing.T) {
	p := fresh3(t, 50)
	f, number := cache.Before(p.store, 50)
	fatalUnless(t, number == api.OK, "Before: %d", number)
	p.number(t, call{"put", "a", "hello"}, api.OK)
	p.held(t, "a")
	fatalUnless(t, len(f.Held()) == 0, "%q are held", f.Held())
	a := ask(f, call{op: "get", key: "a"})
	fatalUnless(t, a == answer{data: "hello"} && slices.Equal(f.Held(), []string{"a"}), "%+v, %q", a, f.Held())
	fatalUnless(t, f.Delete("a") == api.OK && len(f.Held()) == 0, "Delete")
	p.held(t, "a")
}

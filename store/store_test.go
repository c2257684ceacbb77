package store_test

import (
	"errors"
	"fmt"
	"math"
	"slices"
	"strings"
	"testing"

	"cairn/api"
	"cairn/store"
)

// wantText wants an error to have this text; the empty one: there is none.
func wantText(t *testing.T, says string, err error, want string) {
	t.Helper()
	got := ""
	if err != nil {
		got = err.Error()
	}
	fatalUnless(t, got == want, "%s = %q, not %q", says, got, want)
}

func wantGet(t *testing.T, s *store.Store, key, want, trouble string) {
	t.Helper()
	b, err := s.Get(key)
	fatalUnless(t, string(b) == want, "Get %q = %q, not %q", key, b, want)
	wantText(t, "Get", err, trouble)
}

func wantStat(t *testing.T, s *store.Store, key string, gen api.Gen, size int, trouble string) {
	t.Helper()
	g, n, err := s.Stat(key)
	fatalUnless(t, g == gen && n == size, "Stat %q = %v, %d, not %v, %d", key, g, n, gen, size)
	wantText(t, "Stat", err, trouble)
}

// The chapter's examples, row by row.
func TestExamples(t *testing.T) {
	w := patients(3, 4096)
	s, err := store.Create(disksOf(w), small(), theStore())
	wantText(t, "Create", err, "")
	wantText(t, "Put", s.Put("a", []byte("hello")), "")
	wantGet(t, s, "a", "hello", "")
	wantStat(t, s, "a", api.Gen{Epoch: 1, Count: 1}, 5, "")

	exists := s.Put("a", []byte("x"))
	wantText(t, "Put", exists, "put a: error 190")
	fatalUnless(t, *exists.(*store.Trouble) == store.Trouble{Op: "put", Key: "a", Err: api.ErrExists}, "%v", exists)

	b, err := s.Range("a", 1, 3)
	fatalUnless(t, string(b) == "ell" && err == nil, "Range = %q, %v", b, err)
	keys, err := s.List("")
	fatalUnless(t, slices.Equal(keys, []string{"a"}) && err == nil, "List = %q, %v", keys, err)

	noKey := s.Put("", []byte("x"))
	wantText(t, "Put", noKey, "put: error 90")
	fatalUnless(t, *noKey.(*store.Trouble) == store.Trouble{Op: "put", Err: api.ErrKey}, "%v", noKey)

	wantText(t, "Delete", s.Delete("a"), "")
	_, notFound := s.Get("a")
	wantText(t, "Get", notFound, "get a: error 200")

	s.Stop()
	stopped := s.Put("a", []byte("x"))
	wantText(t, "Put", stopped, "put a: error 160")
	wantText(t, "Put", s.Put("", []byte("x")), "put: error 90")

	set, is := s.Set()
	fatalUnless(t, is && slices.Equal(set.Disks, disksOf(w)) && set.Shape == small() && set.Store == theStore() && set.Last == api.Gen{Epoch: 1, Count: 1}, "Set = %v, %v", set, is)
	wantText(t, "Close", s.Close(), "")
	wantText(t, "Close", s.Close(), "close: error 240")
	closed := s.Put("", []byte("x"))
	wantText(t, "Put", closed, "put: error 240")
	set, is = s.Set()
	fatalUnless(t, !is && set.Disks == nil && set.Shape == api.Shape{} && set.Store == [8]byte{} && set.Last == api.Gen{}, "Set = %v, %v", set, is)

	s, err = store.Open(disksOf(w))
	wantText(t, "Open", err, "")
	wantText(t, "Put", s.Put("a", []byte("y")), "")
	wantStat(t, s, "a", api.Gen{Epoch: 2, Count: 1}, 1, "")

	for _, x := range []struct {
		err  error
		want api.Errno
	}{{nil, api.OK}, {api.ErrIO, api.ErrIO}, {closed, api.ErrClosed}, {errors.New("x"), api.ErrArg}} {
		fatalUnless(t, store.Code(x.err) == x.want, "Code of %v = %d", x.err, store.Code(x.err))
	}
	fatalUnless(t, !store.Lost(nil) && store.Lost(stopped) && !store.Lost(notFound), "Lost")
}

// The page's examples that are a store's: 1 to 7 and 9.
func TestExamplesOfThePage(t *testing.T) {
	w := patients(3, 1<<20)
	s, err := store.Create(disksOf(w), small(), [8]byte([]byte("cairn-01")))
	wantText(t, "Create", err, "")
	wantText(t, "Put", s.Put("a", []byte("hello")), "")
	wantText(t, "Put", s.Put("a", []byte("more")), "put a: error 190")
	w[1].Offline(true)
	wantGet(t, s, "a", "hello", "")
	wantText(t, "Put", s.Put("b", []byte("x")), "put b: error 170")
	wantGet(t, s, "b", "x", "")
	w[1].Offline(false)
	did, err := s.Heal()
	fatalUnless(t, did == api.Healed{Written: 1, Keys: 2} && err == nil, "Heal = %v, %v", did, err)
	keys, err := s.List("")
	fatalUnless(t, slices.Equal(keys, []string{"a", "b"}) && err == nil, "List = %q, %v", keys, err)
	wantText(t, "Delete", s.Delete("a"), "")
	wantGet(t, s, "a", "", "get a: error 200")
	w[0].Wipe()
	wantGet(t, s, "b", "x", "")
	did, err = s.Heal()
	fatalUnless(t, did == api.Healed{Written: 1, Keys: 1} && err == nil, "Heal = %v, %v", did, err)
	calls := charts(w)
	wantText(t, "Put", s.Put("", []byte("x")), "put: error 90")
	fatalUnless(t, charts(w) == calls, "a drive was called")
	w[1].Fuse(1, 3, 0)
	down := s.Put("c", []byte("y"))
	wantText(t, "Put", down, "put c: error 122")
	fatalUnless(t, store.Lost(down), "it serves still")
	for _, x := range w {
		x.Crash(api.Fate{})
		x.Power(true)
	}
	s, err = store.Open(disksOf(w))
	wantText(t, "Open", err, "")
	wantGet(t, s, "c", "y", "")
}

// someCalls are calls of all kinds, with arguments that are right and with others that are not.
func someCalls() []call {
	long := strings.Repeat("k", 255)
	l := []call{{op: "heal"}, {op: "list"}, {op: "list", key: "a"}, {op: "list", key: "a/"}, {op: "list", key: "zz"}, {op: "list", key: long + "kk"}}
	for _, key := range []string{"a", "a/b", "b", "none", "", long, long + "k", "\x00\xff", " :"} {
		l = append(l, call{op: "get", key: key}, call{op: "stat", key: key})
		for _, r := range [][2]int{{0, 0}, {1, 3}, {4, 9}, {5, 1}, {6, 0}, {-1, 2}, {2, -1}, {0, math.MaxInt}, {math.MaxInt, math.MaxInt}, {math.MinInt, 0}} {
			l = append(l, call{op: "range", key: key, a: r[0], b: r[1]})
		}
		for _, q := range [][2]int{{-1, 1}, {-1, 1000}, {'/', 2}, {'/', 1}, {0, 5}, {255, 5}, {-2, 5}, {256, 5}, {-1, 0}, {-1, 1001}, {-1, -1}, {math.MinInt, math.MaxInt}} {
			l = append(l, call{op: "page", key: key, a: q[0], b: q[1]}, call{op: "page", key: key, after: "a", a: q[0], b: q[1]}, call{op: "page", after: key, a: q[0], b: q[1]})
		}
		for _, data := range []string{"", "x", "hello", strings.Repeat("y", 5000), strings.Repeat("z", api.MaxObject+1)} {
			l = append(l, call{op: "put", key: key, data: data})
		}
		l = append(l, call{op: "delete", key: key}, call{op: "delete", key: key})
	}
	return l
}

// laid are two stores on which some objects stand.
func laid(t *testing.T) pair[*spy] {
	t.Helper()
	p, err := created(t, small(), func() []*spy { return spies(3) })
	fatalUnless(t, err == api.OK, "Create = %d", err)
	for _, key := range []string{"a", "a/b", "b", strings.Repeat("k", 255)} {
		p.check(t, call{op: "put", key: key, data: "hello"})
	}
	return p
}

// P24.1, P24.6, P24.7, P24.12: each call of an open store answers and does what the layer below does.
func TestOfAnOpenStore(t *testing.T) {
	met := map[string]int{}
	p := laid(t)
	for range 2 { // the second time over what the first one left
		for _, c := range someCalls() {
			met[fmt.Sprint(c.op, " ", int(p.check(t, c).number))]++
		}
	}
	for _, what := range []string{
		"put 0", "put 190", "put 90", "put 3", "get 0", "get 200", "get 90", "range 0", "range 2", "range 201", "range 200", "range 90",
		"stat 0", "stat 200", "stat 90", "delete 0", "delete 200", "delete 90", "list 0", "page 0", "page 2", "heal 0",
	} {
		fatalUnless(t, met[what] > 0, "%s was never met: %v", what, met)
		delete(met, what)
	}
	fatalUnless(t, len(met) == 0, "%v", met)
}

// P24.8: of a stopped store what begins a round is refused, and what is refused ahead of any round is refused as ever; no drive is called, and Last stays.
func TestOfAStoppedStore(t *testing.T) {
	met := map[string]int{}
	p := laid(t)
	stop := func() {
		was := charts(p.mine)
		p.store.Stop()
		p.hand.stop()
		fatalUnless(t, charts(p.mine) == was, "Stop called a drive")
	}
	stop()
	was := charts(p.mine)
	for i, c := range someCalls() {
		met[fmt.Sprint(c.op, " ", int(p.check(t, c).number))]++
		if i%5 == 0 {
			stop() // again
		}
	}
	fatalUnless(t, charts(p.mine) == was, "a drive was called")
	want := map[string]bool{"put 160": true, "put 90": true, "put 3": true, "get 160": true, "get 90": true, "range 160": true, "range 2": true, "range 90": true, "stat 160": true, "stat 90": true, "delete 160": true, "delete 90": true, "list 160": true, "page 160": true, "page 2": true, "heal 160": true}
	for what := range met {
		fatalUnless(t, want[what], "%s: %v", what, met)
	}
	fatalUnless(t, len(met) == len(want), "%v", met)
}

// P24.1, P24.9: of a store that is closed, stopped or not, each call is refused with ErrClosed, also where an argument is wrong; of one that is not there with ErrNil; no drive is called. A Store that nobody opened is not open.
func TestOfAStoreThatIsNotOpen(t *testing.T) {
	closed := laid(t)
	stopped := laid(t)
	stopped.store.Stop()
	stopped.hand.stop()
	later := laid(t)
	for _, p := range []pair[*spy]{closed, stopped, later} {
		was := charts(p.mine)
		p.check(t, call{op: "close"})
		fatalUnless(t, charts(p.mine) == was, "Close called a drive")
	}
	later.store.Stop()
	for i, p := range []pair[*spy]{closed, stopped, later, {store: &store.Store{}, hand: &hand{}}, {}} {
		want := api.ErrClosed
		if p.hand == nil {
			want = api.ErrNil
		}
		was := charts(p.mine)
		for _, c := range append(someCalls(), call{op: "close"}, call{op: "close"}) {
			got := p.check(t, c)
			fatalUnless(t, got.number == want, "%d: %v = %v", i, c, got)
			p.store.Stop()
			set, is := p.store.Set()
			fatalUnless(t, !is && set.Disks == nil && set.Shape == api.Shape{} && set.Store == [8]byte{} && set.Last == api.Gen{}, "%d: Set = %v, %v", i, set, is)
		}
		fatalUnless(t, charts(p.mine) == was, "%d: a drive was called", i)
	}
}

// P24.1: the texts of the troubles of all calls.
func TestTextsOfAllCalls(t *testing.T) {
	var none *store.Store
	for _, x := range []struct {
		err  func(s *store.Store) error
		want string
	}{
		{func(s *store.Store) error { return s.Put("a b", nil) }, "put a b: error "},
		{func(s *store.Store) error { _, err := s.Get("g"); return err }, "get g: error "},
		{func(s *store.Store) error { _, err := s.Range("r", 1, 2); return err }, "range r: error "},
		{func(s *store.Store) error { _, _, err := s.Stat("s"); return err }, "stat s: error "},
		{func(s *store.Store) error { return s.Delete("d") }, "delete d: error "},
		{func(s *store.Store) error { _, err := s.List("l"); return err }, "list l: error "},
		{func(s *store.Store) error { _, err := s.List(""); return err }, "list: error "},
		{func(s *store.Store) error { _, err := s.Page(api.Query{Prefix: "p", After: "x"}); return err }, "page p: error "},
		{func(s *store.Store) error { _, err := s.Page(api.Query{After: "x"}); return err }, "page: error "},
		{func(s *store.Store) error { _, err := s.Heal(); return err }, "heal: error "},
		{func(s *store.Store) error { return s.Close() }, "close: error "},
	} {
		wantText(t, "of none", x.err(none), x.want+"1")
		wantText(t, "of one that is closed", x.err(&store.Store{}), x.want+"240")
	}
	_, err := store.Open(nil)
	wantText(t, "Open", err, "open: error 170")
	_, err = store.Create(nil, api.Shape{}, [8]byte{})
	wantText(t, "Create", err, "create: error 4")
	_, err = store.Create(nil, small(), [8]byte{})
	wantText(t, "Create", err, "create: error 2")
}

// P24.4: shapes that may not be, and other numbers of drives than n: no drive is called, and there is no store.
func TestCreateIsRefused(t *testing.T) {
	for _, shape := range []api.Shape{
		{}, {K: 2, Block: 4}, {K: 1, M: 2, Block: 4}, {K: 2, M: 1}, {K: 2, M: 1, Block: 65537}, {K: 2, M: 1, Block: -1}, {K: 128, M: 128, Block: 4}, {K: -1, M: -1, Block: 4},
		{K: math.MaxInt, M: math.MaxInt, Block: 1}, {K: math.MinInt, M: math.MinInt, Block: 1}, {K: 255, M: 1, Block: 1},
	} {
		for _, n := range []int{0, 1, 3, 255, 256} {
			_, err := created(t, shape, func() []*spy { return spies(n) })
			fatalUnless(t, err == api.ErrShape, "Create of %v = %d", shape, err)
		}
	}
	for _, n := range []int{0, 1, 2, 4, 255, 256, 1000} {
		l := spies(n)
		s, err := store.Create(disksOf(l), small(), theStore())
		fatalUnless(t, s == nil && store.Code(err) == api.ErrArg, "Create of %d drives = %v, %v", n, s, err)
		fatalUnless(t, strings.Trim(charts(l), "\n") == "", "a drive was called")
	}
	for i := range 3 {
		l := disksOf(spies(3))
		l[i] = nil
		s, err := store.Create(l, small(), theStore())
		fatalUnless(t, s == nil && store.Code(err) == api.ErrArg, "Create = %v, %v", s, err)
		for _, d := range l {
			fatalUnless(t, d == nil || d.(*spy).chart() == "", "a drive was called")
		}
	}
}

// P24.4: Create on drives that hold something, each call refused with each number, and the power going in each round.
func TestCreateOnAnyDrives(t *testing.T) {
	met := map[api.Errno]int{}
	for _, shape := range shapes() {
		n := shape.K + shape.M
		full := func() []*spy {
			l := spies(n)
			for i, s := range l {
				s.put("l", labelOf([8]byte{1}, shape, i, 9)).put("t", []byte("t")).put(nameOf("a"), []byte("old")).put("else", nil)
			}
			return l
		}
		for call := range 22 {
			for _, number := range numbers {
				for many := 1; many <= n; many++ { // so many of the drives
					_, err := created(t, shape, func() []*spy {
						l := full()
						for _, s := range l[:many] {
							s.fail(call, number)
						}
						return l
					})
					met[err]++
				}
			}
		}
		for round := range 4 {
			for i := range n {
				_, err := created(t, shape, func() []*spy {
					l := full()
					l[i].struck = round
					return l
				})
				met[err]++
			}
		}
	}
	for _, number := range []api.Errno{api.OK, api.ErrDegraded, api.ErrDown, api.ErrQuorum} {
		fatalUnless(t, met[number] > 5, "%d: %v", number, met)
	}
	fatalUnless(t, len(met) == 4, "%v", met)
}

// P24.4: drives that show another label than the one that was written to them.
func TestCreateOnDrivesThatLie(t *testing.T) {
	other := [8]byte{8}
	for _, x := range []struct {
		says  string
		shows func(i int) []byte
		want  api.Errno
	}{
		{"another store", func(i int) []byte { return labelOf(other, small(), i, 5) }, api.OK},
		{"the last epoch", func(i int) []byte { return labelOf(other, small(), i, api.MaxEpoch) }, api.ErrWorn},
		{"one place", func(int) []byte { return labelOf(other, small(), 1, 5) }, api.ErrQuorum},
		{"no label", func(int) []byte { return []byte("x") }, api.ErrQuorum},
		{"three stores", func(i int) []byte { return labelOf([8]byte{byte(i)}, api.Shape{K: 1, M: 1, Block: 4}, 0, 5) }, api.ErrDrives},
		{"another shape", func(i int) []byte { return labelOf(theStore(), api.Shape{K: 3, M: 2, Block: 1}, i, 5) }, api.OK},
	} {
		p, err := created(t, small(), func() []*spy {
			l := spies(3)
			for i, s := range l {
				s.lies = map[string][]byte{"l": x.shows(i)}
			}
			return l
		})
		fatalUnless(t, err == x.want, "%s: Create = %d", x.says, err)
		if err == api.OK {
			p.check(t, call{op: "put", key: "a", data: "hello"})
			p.check(t, call{op: "get", key: "a"})
		}
	}
}

// orders are orders of the numbers below n, some with gaps or without some of them.
func orders(n int) [][]int {
	up, down := make([]int, n), make([]int, n)
	for i := range n {
		up[i], down[i] = i, n-1-i
	}
	l := [][]int{up, down, append(slices.Clone(up[1:]), 0), append([]int{-1, -1}, down...), nil, {-1}}
	for i := range n {
		l = append(l, slices.Delete(slices.Clone(up), i, i+1), up[:i])
	}
	return l
}

// P24.5: Open of drives in any order, with gaps, some left out, one or more silent, blank, another store's, or worn.
func TestOpenOfAnyDrives(t *testing.T) {
	met := map[api.Errno]int{}
	harms := []func(s *spy, i int){
		func(*spy, int) {},
		func(s *spy, _ int) { clear(s.files) },
		func(s *spy, i int) { s.put("l", labelOf([8]byte{9}, small(), i, 7)) },
		func(s *spy, i int) { s.put("l", labelOf([8]byte{byte(i)}, api.Shape{K: 1, M: 1, Block: 1}, 0, 1)) },
		func(s *spy, i int) { s.put("l", labelOf([8]byte{9}, api.Shape{K: 1, M: 1, Block: 1}, i, api.MaxEpoch)) },
		func(s *spy, _ int) { s.fail(s.calls, api.ErrIO) },
		func(s *spy, _ int) { s.fail(s.calls, api.ErrDown) },
		func(s *spy, _ int) { s.fail(s.calls+2, api.ErrIO) },
		func(s *spy, _ int) { s.fail(s.calls+3, api.ErrDown) },
		func(s *spy, _ int) { s.struck = s.rounds + 2 },
	}
	for _, shape := range shapes() {
		n := shape.K + shape.M
		for _, order := range orders(n) {
			for _, harm := range harms {
				for many := range n + 1 {
					p, err := created(t, shape, func() []*spy { return spies(n) })
					fatalUnless(t, err == api.OK, "Create = %d", err)
					p.check(t, call{op: "put", key: "a", data: "hello"})
					for i := range many {
						harm(p.mine[i], i)
						harm(p.theirs[i], i)
					}
					old := p
					p, err = p.reopened(t, order)
					met[err]++
					p.check(t, call{op: "get", key: "a"})
					p.check(t, call{op: "put", key: "b", data: "x"})
					if got := ask(t, old.store, call{op: "close"}); got.number != api.OK { // the older one is open still
						t.Fatalf("Close = %v", got)
					}
				}
			}
		}
	}
	for _, number := range []api.Errno{api.OK, api.ErrQuorum, api.ErrDrives, api.ErrWorn, api.ErrDown} {
		fatalUnless(t, met[number] > 5, "%d: %v", number, met)
	}
	fatalUnless(t, len(met) == 5, "%v", met)
}

// P24.5: drives above the limit, and at it.
func TestOpenOfManyDrives(t *testing.T) {
	l := spies(300)
	_, err := store.Create(disksOf(l[:3]), small(), theStore())
	wantText(t, "Create", err, "")
	s, err := store.Open(disksOf(l[:256]))
	fatalUnless(t, s == nil, "a store of 256 drives")
	wantText(t, "Open", err, "open: error 2")
	fatalUnless(t, l[255].chart() == "", "a drive was called")
	s, err = store.Open(disksOf(l[:255]))
	wantText(t, "Open", err, "")
	set, is := s.Set()
	fatalUnless(t, is && slices.Equal(set.Disks, disksOf(l[:3])) && set.Last == api.Gen{Epoch: 2}, "Set = %v, %v", set, is)
}

// hook tells the function of each round of the drives' that is over, once, with its number from now on: 1, 2, ..
func hook(l []*spy, over func(round int)) {
	began := l[0].rounds
	l[0].over = func(round int) { over(round - began) }
}

// everyKind are operations of all kinds that go well, and that have one round or several.
func everyKind() []call {
	return []call{
		{op: "put", key: "new", data: "hello there"}, {op: "put", key: "a", data: "x"}, {op: "get", key: "a"}, {op: "get", key: "none"}, {op: "range", key: "a", a: 1, b: 3}, {op: "stat", key: "a"},
		{op: "delete", key: "a"}, {op: "delete", key: "none"}, {op: "list", key: "a"}, {op: "page", a: '/', b: 2}, {op: "heal"},
	}
}

// torn are two stores on which a drive has lost what stood there, so that a Heal has much to do.
func torn(t *testing.T) pair[*spy] {
	t.Helper()
	p := laid(t)
	clear(p.mine[1].files)
	clear(p.theirs[1].files)
	for _, l := range [][]*spy{p.mine, p.theirs} {
		l[2].put(nameOf("lone"), []byte("x"))
	}
	return p
}

// P24.6, P24.8: a Stop between two rounds of an operation: it begins no further one, and what earlier rounds did stands; the next operation begins none at all.
func TestStopInTheMidst(t *testing.T) {
	met := map[string]int{}
	for _, c := range everyKind() {
		for round := range 12 {
			p := torn(t)
			hook(p.mine, func(over int) {
				if over == round {
					p.store.Stop()
				}
			})
			hook(p.theirs, func(over int) {
				if over == round {
					p.hand.stop()
				}
			})
			before := p.mine[0].rounds
			got := p.check(t, c)
			met[fmt.Sprint(c.op, " ", int(got.number))]++
			fatalUnless(t, got.number != api.ErrStopped || p.mine[0].rounds-before == round, "%v = %v behind %d rounds, not %d", c, got, p.mine[0].rounds-before, round)
			p.check(t, call{op: "get", key: "b"})
		}
	}
	for _, what := range []string{"put 0", "put 160", "delete 0", "delete 160", "list 0", "list 160", "page 160", "heal 0", "heal 160"} {
		fatalUnless(t, met[what] > 0, "%s was never met: %v", what, met)
	}
	fatalUnless(t, met["heal 160"] > 5 && met["get 160"] == 0, "%v", met)
}

// P24.8: a Stop in the midst of a round, by all drives at once, again and again: the round goes on to its end.
func TestStopWithinARound(t *testing.T) {
	for _, c := range everyKind() {
		for round := range 12 {
			p := torn(t)
			began := p.mine[0].rounds
			for _, s := range p.mine {
				s.within = func(now int) {
					if now-began == round {
						p.store.Stop()
					}
				}
			}
			hook(p.theirs, func(over int) {
				if over == round+1 {
					p.hand.stop()
				}
			})
			p.check(t, c)
			p.check(t, call{op: "stat", key: "b"})
		}
	}
}

// P24.9: a Close in the midst of an operation leaves that operation as it is, and a Stop behind the Close does nothing; the next call is refused.
func TestCloseInTheMidst(t *testing.T) {
	closed := 0
	for _, c := range everyKind() {
		for round := range 6 {
			for _, stop := range []bool{false, true} {
				p := torn(t)
				began, is := p.mine[0].rounds, false
				p.mine[0].within = func(now int) {
					if is || now-began != round {
						return
					}
					is = p.store.Close() == nil
					if stop {
						p.store.Stop()
					}
				}
				want := p.hand.ask(c)
				got := ask(t, p.store, c)
				fatalUnless(t, got == want && charts(p.mine) == charts(p.theirs), "%v = %v, not %v, or the drives were asked something else", c, got, want)
				p.mine[0].within = nil
				if is {
					closed++
					p.hand.set = nil
				}
				p.check(t, c)
			}
		}
	}
	fatalUnless(t, closed > 30, "%d", closed)
}

// P24.10: the set as it is now: in the midst of a Put its generation is used up, ahead of its being known what comes of it.
func TestSetInTheMidst(t *testing.T) {
	p := laid(t)
	var lasts []api.Gen
	for _, s := range p.mine {
		s.within = func(int) {
			if set, is := p.store.Set(); is && s == p.mine[0] {
				lasts = append(lasts, set.Last)
			}
		}
	}
	p.check(t, call{op: "put", key: "new", data: "hello"})
	fatalUnless(t, len(lasts) == 6 && lasts[0] == api.Gen{Epoch: 1, Count: 4}, "%v", lasts)
	for _, last := range lasts[1:] {
		fatalUnless(t, last == api.Gen{Epoch: 1, Count: 5}, "%v", lasts)
	}
}

// P24.10: the set behind each operation, and whether a Put used up a generation.
func TestSetBehindOperations(t *testing.T) {
	w := patients(3, 1<<20)
	s, err := store.Create(disksOf(w), small(), theStore())
	wantText(t, "Create", err, "")
	last := func(want api.Gen) {
		t.Helper()
		was := charts(w)
		set, is := s.Set()
		fatalUnless(t, is && set.Last == want && slices.Equal(set.Disks, disksOf(w)) && set.Shape == small() && set.Store == theStore(), "Set = %v, %v, not %v", set, is, want)
		fatalUnless(t, charts(w) == was, "Set called a drive")
	}
	last(api.Gen{Epoch: 1})
	s.Put("", nil)
	s.Get("a")
	s.Delete("a")
	last(api.Gen{Epoch: 1})
	s.Put("a", nil)
	last(api.Gen{Epoch: 1, Count: 1})
	s.Put("a", nil)
	s.Heal()
	s.List("")
	last(api.Gen{Epoch: 1, Count: 1})
	w[0].Offline(true)
	wantText(t, "Put", s.Put("b", nil), "put b: error 170")
	last(api.Gen{Epoch: 1, Count: 2})
	w[1].Offline(true)
	wantText(t, "Put", s.Put("c", nil), "put c: error 170")
	last(api.Gen{Epoch: 1, Count: 2})
	s.Stop()
	s.Put("d", nil)
	last(api.Gen{Epoch: 1, Count: 2})
}

// P24.6: Heal's Healed stands beside ErrDegraded, and is zero beside all else that is refused.
func TestHealedBesideAnError(t *testing.T) {
	w := patients(3, 1<<20)
	s, err := store.Create(disksOf(w), small(), theStore())
	wantText(t, "Create", err, "")
	wantText(t, "Put", s.Put("a", []byte("hello")), "")
	wantText(t, "Put", s.Put("b", []byte("hello")), "")
	w[0].Offline(true)
	did, err := s.Heal()
	fatalUnless(t, did == api.Healed{Keys: 2}, "Heal = %v", did)
	wantText(t, "Heal", err, "heal: error 230")
	w[1].Wipe()
	did, err = s.Heal()
	fatalUnless(t, did == api.Healed{}, "Heal = %v", did)
	wantText(t, "Heal", err, "heal: error 230")
	w[1].Offline(true)
	did, err = s.Heal()
	fatalUnless(t, did == api.Healed{Unknown: 2}, "Heal = %v", did)
	wantText(t, "Heal", err, "heal: error 230")
	w[2].Power(false)
	did, err = s.Heal()
	fatalUnless(t, did == api.Healed{}, "Heal = %v", did)
	wantText(t, "Heal", err, "heal: error 122")
	s.Stop()
	did, err = s.Heal()
	fatalUnless(t, did == api.Healed{}, "Heal = %v", did)
	wantText(t, "Heal", err, "heal: error 160")
}

// P24.7: the three things that a Look may come to, and its errors.
func TestStat(t *testing.T) {
	w := patients(3, 1<<20)
	s, err := store.Create(disksOf(w), small(), theStore())
	wantText(t, "Create", err, "")
	for i, size := range []int{0, 1, 4, 5, 8, 9, 4096} {
		key := fmt.Sprint("key ", i)
		wantText(t, "Put", s.Put(key, make([]byte, size)), "")
		wantStat(t, s, key, api.Gen{Epoch: 1, Count: i + 1}, size, "")
	}
	wantStat(t, s, "none", api.Gen{}, 0, "stat none: error 200")
	wantStat(t, s, "", api.Gen{}, 0, "stat: error 90")
	w[0].Offline(true)
	wantStat(t, s, "key 1", api.Gen{Epoch: 1, Count: 2}, 1, "")
	wantStat(t, s, "none", api.Gen{}, 0, "stat none: error 200")
	w[1].Offline(true)
	wantStat(t, s, "key 1", api.Gen{}, 0, "stat key 1: error 170")
	wantStat(t, s, "none", api.Gen{}, 0, "stat none: error 170")
	w[2].Power(false)
	wantStat(t, s, "key 1", api.Gen{}, 0, "stat key 1: error 122")
	s.Stop()
	wantStat(t, s, "key 1", api.Gen{}, 0, "stat key 1: error 160")
	wantStat(t, s, strings.Repeat("k", 256), api.Gen{}, 0, "stat "+strings.Repeat("k", 256)+": error 90")
}

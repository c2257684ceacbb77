package store_test

import (
	"fmt"
	"maps"
	"runtime"
	"slices"
	"strings"
	"sync"
	"sync/atomic"
	"testing"
	"time"

	"cairn/api"
	"cairn/drive"
	"cairn/store"
	"cairn/wound"
)

// spoil overwrites a list with the room behind it.
func spoil[E any](l []E, with E) {
	l = l[:cap(l)]
	for i := range l {
		l[i] = with
	}
}

// roomy is a list with room behind it that holds something.
func roomy[E any](l []E, behind ...E) []E {
	return slices.Concat(l, behind)[:len(l)]
}

// P24.13: the list of drives, with the room behind it, stays as it was, and is not kept: what becomes of it later changes nothing.
func TestListsOfDrives(t *testing.T) {
	w := patients(3, 1<<20)
	stranger := spies(1)[0]
	for round := range 4 {
		disks := roomy(disksOf(w), api.Disk(stranger), nil)
		was := slices.Clone(disks[:5])
		s, err := store.Create(disks, small(), theStore())
		if round%2 == 1 {
			s, err = store.Open(disks)
		}
		wantText(t, "Create or Open", err, "")
		fatalUnless(t, slices.Equal(disks[:5], was), "the list became %v", disks[:5])
		spoil(disks, api.Disk(stranger))
		wantText(t, "Put", s.Put("a", []byte("hello")), "")
		wantGet(t, s, "a", "hello", "")
		set, is := s.Set()
		fatalUnless(t, is && slices.Equal(set.Disks, disksOf(w)), "Set = %v, %v", set, is)
	}
	for _, n := range []int{0, 1, 2} { // and where it is refused
		disks := roomy(disksOf(w)[:n], api.Disk(stranger))
		was := slices.Clone(disks[:n+1])
		_, err := store.Create(disks, small(), theStore())
		wantText(t, "Create", err, "create: error 2")
		_, err = store.Open(disks)
		fatalUnless(t, (err == nil) == (n == 2) && slices.Equal(disks[:n+1], was), "Open = %v, the list became %v", err, disks[:n+1])
	}
	fatalUnless(t, stranger.chart() == "", "a drive that was not handed in was called: %s", stranger.chart())
}

// meddler is a drive that turns the list that was handed in, when its first round is over.
type meddler struct {
	*spy
	turn func()
}

func (m *meddler) Rest(off bool) {
	m.spy.Rest(off)
	if m.spy.rounds == 1 {
		m.turn()
	}
}

// P24.4: Format and Open are of the drives that were handed in, whatever a drive that can reach the list makes of it between the two.
func TestDrivesTurnTheList(t *testing.T) {
	for _, turn := range []func(disks []api.Disk){
		func(disks []api.Disk) { clear(disks) },
		func(disks []api.Disk) { disks[0] = nil },
		func(disks []api.Disk) { disks[0], disks[1] = disks[1], disks[0] },
		func(disks []api.Disk) { disks[1] = &spy{} },
	} {
		l := spies(3)
		disks := disksOf(l)
		m := &meddler{spy: l[2], turn: func() { turn(disks) }}
		disks[2] = m
		was := slices.Clone(disks)
		s, err := store.Create(disks, small(), theStore())
		wantText(t, "Create", err, "")
		set, is := s.Set()
		fatalUnless(t, is && slices.Equal(set.Disks, was), "Set = %v, %v", set, is)
		for i, d := range l {
			fatalUnless(t, d.rounds == 3, "the drive %d had %d rounds", i, d.rounds)
		}
	}
}

// P24.13: the bytes that are put stay as they were, with the room behind them, and are not kept, whatever is answered.
func TestBytesThatArePut(t *testing.T) {
	s, err := store.Create(disksOf(patients(3, 1<<20)), small(), theStore())
	wantText(t, "Create", err, "")
	for _, x := range []struct {
		key, data, want string
	}{
		{"a", "hello", ""}, {"a", "hello", "put a: error 190"}, {"b", "hello", ""}, {"", "hello", "put: error 90"}, {"c", strings.Repeat("x", api.MaxObject+1), "put c: error 3"},
	} {
		data := roomy([]byte(x.data), []byte("behind")...)
		wantText(t, "Put", s.Put(x.key, data), x.want)
		fatalUnless(t, string(data[:len(data)+6]) == x.data+"behind", "the bytes became others")
		spoil(data, 'X')
	}
	wantGet(t, s, "a", "hello", "")
	wantGet(t, s, "b", "hello", "")
}

// P24.13: what is answered is new memory: a caller may overwrite it, with the room behind it, and is answered the same again.
func TestAnswersAreNewMemory(t *testing.T) {
	s, err := store.Create(disksOf(patients(5, 1<<20)), api.Shape{K: 3, M: 2, Block: 4}, theStore())
	wantText(t, "Create", err, "")
	for _, key := range []string{"a", "a/b", "a/c", "b/x", "c"} {
		wantText(t, "Put", s.Put(key, []byte("of "+key)), "")
	}
	for range 3 {
		b, err := s.Get("a/b")
		fatalUnless(t, string(b) == "of a/b" && err == nil, "Get = %q, %v", b, err)
		other, _ := s.Get("a/b")
		spoil(b, 'X')
		fatalUnless(t, string(other) == "of a/b", "two answers share bytes: %q", other)
		b, err = s.Range("a/b", 1, 4)
		fatalUnless(t, string(b) == "f a/" && err == nil, "Range = %q, %v", b, err)
		spoil(b, 'X')
		keys, err := s.List("a")
		fatalUnless(t, slices.Equal(keys, []string{"a", "a/b", "a/c"}) && err == nil, "List = %q, %v", keys, err)
		spoil(keys, "X")
		page, err := s.Page(api.Query{Delim: '/', Limit: 9})
		fatalUnless(t, slices.Equal(page.Keys, []string{"a", "c"}) && slices.Equal(page.Groups, []string{"a/", "b/"}) && err == nil, "Page = %v, %v", page, err)
		spoil(page.Keys, "X")
		fatalUnless(t, slices.Equal(page.Groups, []string{"a/", "b/"}), "the lists of a page share memory: %q", page.Groups)
		spoil(page.Groups, "X")
	}
}

// P24.1: each Trouble is a new one: what a caller makes of it changes no later one.
func TestTroublesAreNew(t *testing.T) {
	var none *store.Store
	for range 3 {
		for _, op := range operations {
			got := ask(t, none, call{op: op, key: "k"})
			fatalUnless(t, got.number == api.ErrNil && got.op == op, "%v", got)
		}
		err := none.Delete("k")
		trouble := err.(*store.Trouble)
		other := none.Delete("k").(*store.Trouble)
		*trouble = store.Trouble{Op: "x", Key: "y", Err: 7}
		wantText(t, "Delete", err, "x y: error 7")
		wantText(t, "Delete", other, "delete k: error 1")
	}
}

// P24.10, P24.13: the set that is told is a copy: what a caller makes of it, and puts by it, the store does not see.
func TestSetIsACopy(t *testing.T) {
	w := patients(3, 1<<20)
	s, err := store.Create(disksOf(w), small(), theStore())
	wantText(t, "Create", err, "")
	wantText(t, "Put", s.Put("a", []byte("hello")), "")
	first, _ := s.Set()
	other, _ := s.Set()
	spoil(first.Disks, nil)
	fatalUnless(t, slices.Equal(other.Disks, disksOf(w)), "two answers share a list: %v", other.Disks)
	first.Shape, first.Store, first.Last = api.Shape{}, [8]byte{}, api.Gen{Epoch: 77, Count: 88}
	set, is := s.Set()
	fatalUnless(t, is && slices.Equal(set.Disks, disksOf(w)) && set.Shape == small() && set.Store == theStore() && set.Last == api.Gen{Epoch: 1, Count: 1}, "Set = %v, %v", set, is)
	wantText(t, "Put", s.Put("b", []byte("x")), "")
	wantStat(t, s, "b", api.Gen{Epoch: 1, Count: 2}, 1, "")
	fatalUnless(t, set.Last == api.Gen{Epoch: 1, Count: 1}, "an answer was turned: %v", set)
	wantText(t, "Close", s.Close(), "")
	fatalUnless(t, slices.Equal(set.Disks, disksOf(w)), "an answer was turned: %v", set)
}

// What a closed store was made of is not kept by it.
func TestAClosedStoreKeepsNothing(t *testing.T) {
	var stores []*store.Store
	gone := make(chan int, 30)
	for i := range 10 {
		var disks []api.Disk
		for range 3 {
			d := drive.New(1 << 20)
			runtime.AddCleanup(d, func(int) { gone <- 1 }, i)
			disks = append(disks, wound.New(d))
		}
		s, err := store.Create(disks, small(), theStore())
		wantText(t, "Create", err, "")
		wantText(t, "Put", s.Put("a", make([]byte, 9999)), "")
		wantText(t, "Close", s.Close(), "")
		stores = append(stores, s)
	}
	begin := time.Now()
	for n := 0; n < 20; { // the last ones may stand on the stack still
		fatalUnless(t, time.Since(begin) < 30*time.Second, "%d drives of 30 are gone", n)
		runtime.GC()
		select {
		case <-gone:
			n++
		case <-time.After(time.Millisecond):
		}
	}
	for _, s := range stores {
		wantText(t, "Close", s.Close(), "close: error 240")
	}
}

// Stop and Close may come beside operations and beside one another: nothing breaks, of many Closes one is answered nil, and behind them nothing is served.
func TestStopsAndClosesBesideOperations(t *testing.T) {
	for run := range 60 {
		w := patients(3, 1<<20)
		s, err := store.Create(disksOf(w), small(), theStore())
		wantText(t, "Create", err, "")
		wantText(t, "Put", s.Put("a", []byte("hello")), "")
		var group sync.WaitGroup
		begin := make(chan struct{})
		closed := make(chan bool, 8)
		for i := range 8 {
			group.Go(func() {
				<-begin
				s.Stop()
				if run%2 == 0 && i > 3 {
					closed <- s.Close() == nil
				}
				s.Stop()
			})
		}
		answers := make(chan error, 1000)
		group.Go(func() { // one operation at a time
			for i := range 50 {
				if i == run%20 {
					close(begin)
				}
				b, err := s.Get("a")
				if err == nil && string(b) != "hello" {
					err = api.ErrArg
				}
				answers <- err
				answers <- s.Put(fmt.Sprint(i), nil)
			}
		})
		group.Wait()
		close(closed)
		close(answers)
		well := 0
		for is := range closed {
			if is {
				well++
			}
		}
		fatalUnless(t, well == (run+1)%2, "%d Closes were answered nil", well)
		for err := range answers {
			fatalUnless(t, err == nil || store.Lost(err), "%v", err)
		}
		want := "get a: error 160"
		if run%2 == 0 {
			want = "get a: error 240"
		}
		wantGet(t, s, "a", "", want)
	}
}

// atOnce calls a function of each number below many, all at one time as nearly as can be.
func atOnce(many int, call func(i int)) {
	var group sync.WaitGroup
	var ready atomic.Int32
	for i := range many {
		group.Go(func() {
			for ready.Add(1); int(ready.Load()) < many; {
				runtime.Gosched()
			}
			call(i)
		})
	}
	group.Wait()
}

// Of Stops that come at the very same time one closes the channel, and of Closes one is answered nil.
func TestStopsAndClosesAtOnce(t *testing.T) {
	many := min(4, runtime.GOMAXPROCS(0))
	l := disksOf(patients(2, 4096))
	_, err := store.Create(l, api.Shape{K: 1, M: 1, Block: 1}, theStore())
	wantText(t, "Create", err, "")
	for range 20000 {
		s, err := store.Open(l)
		wantText(t, "Open", err, "")
		atOnce(many, func(int) { s.Stop() })
		wantGet(t, s, "a", "", "get a: error 160")
		var closed atomic.Int32
		atOnce(many, func(int) {
			if s.Close() == nil {
				closed.Add(1)
			}
		})
		fatalUnless(t, closed.Load() == 1, "%d Closes were answered nil", closed.Load())
	}
}

// gate lets through when as many as it is for have come, again and again.
type gate struct {
	lock  sync.Mutex
	n, at int
	open  chan struct{}
}

func (g *gate) wait() {
	g.lock.Lock()
	open := g.open
	g.at++
	if g.at == g.n {
		g.at, g.open = 0, make(chan struct{})
		close(open)
	}
	g.lock.Unlock()
	<-open
}

// A round's drives are asked beside one another, and each may ask its own store meanwhile: nothing waits for ever.
func TestDrivesMayAskTheirStore(t *testing.T) {
	l := spies(3)
	s, err := store.Create(disksOf(l), small(), theStore())
	wantText(t, "Create", err, "")
	g := &gate{n: 3, open: make(chan struct{})}
	for _, d := range l {
		d.within = func(int) {
			g.wait()
			s.Set()
			s.Stop()
			var none *store.Store
			none.Stop()
		}
	}
	ended := make(chan error, 1)
	go func() { ended <- s.Put("a", []byte("hello")) }()
	select {
	case err := <-ended:
		wantText(t, "Put", err, "put a: error 160")
	case <-time.After(30 * time.Second):
		t.Fatal("the drives wait for one another")
	}
}

// asker is a drive that asks its own store, once, in the midst of a call. (A plain drive: it may be read by two at one time, a wound counts.)
type asker struct {
	*drive.Drive
	ask func()
}

func (a *asker) Read(name string) ([]byte, api.Errno) {
	if ask := a.ask; ask != nil {
		a.ask = nil
		ask()
	}
	return a.Drive.Read(name)
}

// A drive may go to its own store for an object in the midst of a reading of another one.
func TestReadingsWithinReadings(t *testing.T) {
	a := &asker{Drive: drive.New(1 << 20)}
	s, err := store.Create([]api.Disk{a, drive.New(1 << 20), drive.New(1 << 20)}, small(), theStore())
	wantText(t, "Create", err, "")
	wantText(t, "Put", s.Put("a", []byte("hello")), "")
	ended := make(chan string, 2)
	a.ask = func() {
		_, err := s.Get("a")
		ended <- fmt.Sprint(err)
	}
	go func() {
		b, err := s.Get("a")
		ended <- fmt.Sprintf("%s %v", b, err)
	}()
	for range 2 {
		select {
		case got := <-ended:
			fatalUnless(t, got == "<nil>" || got == "hello <nil>", "%s", got)
		case <-time.After(30 * time.Second):
			t.Fatal("the store waits for itself")
		}
	}
}

// All goroutines have ended when a call answers, or have nothing left to do but to end.
func TestGoroutinesEnd(t *testing.T) {
	before := runtime.NumGoroutine()
	for range 50 {
		w := patients(3, 1<<20)
		s, err := store.Create(disksOf(w), small(), theStore())
		wantText(t, "Create", err, "")
		for _, c := range everyKind() {
			ask(t, s, c)
		}
		w[1].Offline(true)
		for _, c := range everyKind() {
			ask(t, s, c)
		}
		s.Stop()
		for _, c := range everyKind() {
			ask(t, s, c)
		}
		s.Close()
	}
	for begin := time.Now(); runtime.NumGoroutine() > before; {
		fatalUnless(t, time.Since(begin) < 30*time.Second, "%d goroutines are left, of %d", runtime.NumGoroutine(), before)
		time.Sleep(time.Millisecond)
	}
}

// alone is a play of one store by itself: all that it answered.
func alone(t *testing.T, seed int64) string {
	r := source(seed)
	shape := pick(r, shapes()...)
	w := patients(shape.K+shape.M, 3000)
	s, err := store.Create(disksOf(w), shape, theStore())
	var log strings.Builder
	fmt.Fprintln(&log, err)
	for range 80 {
		misfortune(r, w[r.Intn(len(w))])
		c := someCall(r)
		fmt.Fprintln(&log, c, ask(t, s, c))
	}
	fmt.Fprint(&log, charts(w))
	return log.String()
}

// P24.12: a store has nothing but its own: stores that are played beside one another come out as each by itself.
func TestStoresBesideOneAnother(t *testing.T) {
	const many = 40
	var by, beside [many]string
	for i := range many {
		by[i] = alone(t, int64(i))
	}
	var group sync.WaitGroup
	for i := range many {
		group.Go(func() { beside[i] = alone(t, int64(i)) })
	}
	group.Wait()
	fatalUnless(t, by == beside, "stores hang on one another")
}

// W6: whatever bytes the drives hold and whatever they answer, calls end, none panics, and the numbers are those of the chapter's table; and all is as the layers below say.
func TestAnyBytes(t *testing.T) {
	met := map[string]int{}
	for seed := range int64(1500) {
		shape := pick(source(seed), shapes()...)
		n := shape.K + shape.M
		p, err := created(t, shape, func() []*spy { return spies(n) })
		fatalUnless(t, err == api.OK, "Create = %d", err)
		for _, key := range someKeys {
			p.check(t, call{op: "put", key: key, data: "of " + key})
		}
		for _, l := range [][]*spy{p.mine, p.theirs} {
			r := source(seed)
			for _, s := range l {
				for _, name := range slices.Sorted(maps.Keys(s.files)) {
					b := slices.Clone(s.files[name])
					switch r.Intn(20) {
					case 0:
						b = []byte(someData(r, 100))
					case 1:
						b = append(b[:r.Intn(len(b)+1)], byte(r.Intn(256)))
					case 2:
						b[r.Intn(len(b))] ^= byte(1 << r.Intn(8))
					}
					s.files[name] = b
				}
				for range r.Intn(3) {
					s.put(pick(r, someData(r, 5), nameOf(someData(r, 5)), "t"), []byte(someData(r, 50)))
				}
				for range r.Intn(3) {
					s.fail(s.calls+r.Intn(40), pick(r, numbers...))
				}
				if r.Intn(12) == 0 {
					from := s.calls + r.Intn(20)
					for i := range 300 { // from some call on it refuses all
						s.fail(from+i, api.ErrIO)
					}
				}
			}
		}
		r := source(seed)
		p, err = p.reopened(t, r.Perm(n))
		wantInTable(t, "open", err)
		met[fmt.Sprint("open ", int(err))]++
		for range 12 {
			c := someCall(r)
			got := p.check(t, c)
			wantInTable(t, c.op, got.number)
			met[fmt.Sprint(c.op, " ", int(got.number))]++
		}
	}
	for _, what := range []string{"open 0", "open 122", "put 0", "put 170", "put 122", "get 0", "get 170", "delete 0", "delete 170", "heal 0", "heal 230", "heal 122", "list 0", "list 170", "page 170"} {
		fatalUnless(t, met[what] > 2, "%s: %v", what, met)
	}
}

// An interface that holds a nil pointer is a drive that is there, and whose calls are refused.
func TestNilPointers(t *testing.T) {
	for _, anew := range []func() api.Disk{
		func() api.Disk { return (*wound.Wound)(nil) },
		func() api.Disk { return (*drive.Drive)(nil) },
		func() api.Disk { return &wound.Wound{} },
	} {
		good := disksOf(patients(3, 1<<20))
		s, err := store.Create(good, small(), theStore())
		wantText(t, "Create", err, "")
		wantText(t, "Put", s.Put("a", []byte("hello")), "")
		_, err = store.Open([]api.Disk{anew(), anew(), anew()})
		wantText(t, "Open", err, "open: error 170")
		s, err = store.Open([]api.Disk{anew(), good[2], good[1]})
		wantText(t, "Open", err, "")
		wantGet(t, s, "a", "hello", "")
		_, err = store.Create([]api.Disk{anew(), good[0], good[1]}, small(), theStore())
		wantText(t, "Create", err, "create: error 230")
	}
}

// W0: calls of much end, and in a short time.
func TestMuchEnds(t *testing.T) {
	begin := time.Now()
	_, err := store.Create(make([]api.Disk, 1<<22), small(), theStore())
	wantText(t, "Create", err, "create: error 2")
	_, err = store.Open(make([]api.Disk, 1<<22))
	wantText(t, "Open", err, "open: error 2")
	_, err = store.Open(make([]api.Disk, 255))
	wantText(t, "Open", err, "open: error 170")
	shape := api.Shape{K: 128, M: 127, Block: 64}
	w := patients(255, 1<<20)
	s, err := store.Create(disksOf(w), shape, theStore())
	wantText(t, "Create", err, "")
	for i := range 20 {
		wantText(t, "Put", s.Put(fmt.Sprint("key ", i), make([]byte, i*500)), "")
	}
	for _, x := range w[:127] {
		x.Wipe()
	}
	did, err := s.Heal()
	fatalUnless(t, did == api.Healed{Written: 127 * 20, Keys: 20} && err == nil, "Heal = %v, %v", did, err)
	long := strings.Repeat("k", 1<<24)
	for _, c := range []call{{op: "put", key: long, data: long}, {op: "get", key: long}, {op: "range", key: long}, {op: "stat", key: long}, {op: "delete", key: long}} {
		got := ask(t, s, c)
		fatalUnless(t, got.number == api.ErrKey && got.key == long, "%s = %d", c.op, got.number)
	}
	got := ask(t, s, call{op: "list", key: long})
	fatalUnless(t, got.number == api.OK && got.says == nothing, "list = %d", got.number)
	got = ask(t, s, call{op: "page", key: long, after: long, a: -1, b: 1})
	fatalUnless(t, got.number == api.OK && got.says == nothing, "page = %d", got.number)
	fatalUnless(t, time.Since(begin) < 60*time.Second, "it took %v", time.Since(begin))
}

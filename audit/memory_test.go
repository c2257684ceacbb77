package audit_test

import (
	"bytes"
	"fmt"
	"runtime"
	"slices"
	"strings"
	"sync"
	"testing"
	"time"

	"cairn/api"
	"cairn/audit"
	"cairn/drive"
	"cairn/fan"
	"cairn/put"
	"cairn/wound"
)

// The list of drives is not changed, nor the room behind it, whatever is answered; what stands there is not called.
func TestWhatIsHandedInStaysAsItWas(t *testing.T) {
	for _, text := range []string{"a", "b", ""} {
		for _, done := range []<-chan struct{}{nil, fan.Done(true), make(chan struct{})} {
			disks := disksOf(spies(9, func(i int) *spy { return oldOne(small(), min(i, 2)) }))
			was := slices.Clone(disks)
			set := &api.Set{Disks: disks[:3], Shape: small(), Store: theStore(), Last: api.Gen{Epoch: 1, Count: 7}}
			audit.Key(set, done, text)
			audit.All(set, done, text)
			fatalUnless(t, slices.Equal(disks, was) && len(set.Disks) == 3 && cap(set.Disks) == cap(disks), "the drives became %v", set.Disks)
			fatalUnless(t, set.Shape == small() && set.Store == theStore() && set.Last == api.Gen{Epoch: 1, Count: 7}, "the set became %v", *set)
			for i, d := range disks[3:] {
				fatalUnless(t, d.(*spy).chart() == "", "the drive %d, behind the set's, was asked %s", 3+i, d.(*spy).chart())
			}
		}
	}
}

// What a drive tells is its own, names and bytes, and neither changed nor kept; their order stays.
func TestWhatADriveTellsIsItsOwn(t *testing.T) {
	s := shelves(small(), "b", "c", "a")
	var all, were [][]byte
	var names, were2 [][]string
	for _, d := range s.disks {
		d := d.(*spy)
		for name, b := range d.files {
			b = append(b, "behind"...)
			all, were = append(all, b), append(were, slices.Clone(b))
			d.files[name] = b[:len(b)-6]
		}
		l := append(d.names, "o7a", "o79")
		names, were2 = append(names, l), append(were2, slices.Clone(l))
		d.names = l[:3]
	}
	l, err := s.all(t)
	fatalUnless(t, err == api.OK && slices.Equal(l, wholeOf(small(), "a", "b", "c")), "All = %v, %d", l, err)
	f, err := s.one(t)
	fatalUnless(t, err == api.OK && f == l[0], "Key = %v, %d", f, err)
	for i, b := range all {
		fatalUnless(t, bytes.Equal(b, were[i]), "the drive's own bytes became %x, not %x", b, were[i])
	}
	for i, l := range names {
		fatalUnless(t, slices.Equal(l, were2[i]), "the drive's own names became %q, not %q", l, were2[i])
	}
}

// greedy is a drive that overwrites all that it told, with the room behind it, when a round is over.
type greedy struct {
	*spy
	kept  [][]byte
	names [][]string
}

func (g *greedy) List() ([]string, api.Errno) {
	l, err := g.spy.List()
	l = slices.Clone(l)
	g.names = append(g.names, l)
	return l, err
}

func (g *greedy) Read(name string) ([]byte, api.Errno) {
	b, err := g.spy.Read(name)
	b = slices.Clone(b)
	g.kept = append(g.kept, b)
	return b, err
}

func (g *greedy) Struck() bool {
	for _, b := range g.kept {
		b = b[:cap(b)]
		for i := range b {
			b[i] = 'Z'
		}
	}
	for _, l := range g.names {
		l = l[:cap(l)]
		for i := range l {
			l[i] = "o7a"
		}
	}
	return g.spy.Struck()
}

// Drives that overwrite all that they told change nothing of what is asked and answered.
func TestGreedyDrives(t *testing.T) {
	for _, shape := range shapes() {
		for stand := range shape.K + shape.M + 1 {
			drives := func() []*spy {
				var l []*spy
				for i := range shape.K + shape.M {
					if i < stand {
						l = append(l, shelf(shape, i, "b", "a", "a/b"))
					} else {
						l = append(l, shelf(shape, i, "a"))
					}
				}
				return l
			}
			var mine, plainly []subject
			for _, s := range drives() {
				mine = append(mine, &greedy{spy: s})
			}
			for _, s := range drives() {
				plainly = append(plainly, s)
			}
			l, err := sceneOf(shape, mine).all(t)
			want, no := sceneOf(shape, plainly).all(t)
			fatalUnless(t, err == no && slices.Equal(l, want), "All = %v, %d, not %v, %d", l, err, want, no)
			f, err := sceneOf(shape, mine).one(t)
			one, no := sceneOf(shape, plainly).one(t)
			fatalUnless(t, err == no && f == one, "Key = %v, %d, not %v, %d", f, err, one, no)
			fatalUnless(t, charts(mine) == charts(plainly), "the drives were asked\n%s\nnot\n%s", charts(mine), charts(plainly))
		}
	}
}

// Answers are new memory: no two lists share any, spare room too; and what is done to them is not seen in the store.
func TestAnswersAreNewMemory(t *testing.T) {
	s := shelves(small(), "a", "a/b", "a/c", "b", "c/d", "e")
	var lists [][]api.Finding
	for range 3 {
		for _, prefix := range []string{"", "a", "a/"} {
			l, err := audit.All(s.set, nil, prefix)
			fatalUnless(t, err == api.OK && len(l) > 1, "All = %v, %d", l, err)
			lists = append(lists, l)
		}
	}
	for i, l := range lists {
		for j := range l[:cap(l)] {
			l[:cap(l)][j] = api.Finding{Key: fmt.Sprint("of ", i)}
		}
	}
	for i, l := range lists {
		for j, f := range l[:cap(l)] {
			fatalUnless(t, f.Key == fmt.Sprint("of ", i), "the list %d has at %d (of %d) what was written to another one: %v", i, j, len(l), f)
		}
	}
	l, err := audit.All(s.set, nil, "")
	fatalUnless(t, err == api.OK && slices.Equal(l, wholeOf(small(), "a", "a/b", "a/c", "b", "c/d", "e")), "All = %v, %d", l, err)
}

// meddler is a drive that reaches the set and turns it in one of the rounds.
type meddler struct {
	*spy
	in   int
	turn func()
}

func (m *meddler) List() ([]string, api.Errno) {
	if m.in == 1 {
		m.turn()
	}
	return m.spy.List()
}

func (m *meddler) Read(name string) ([]byte, api.Errno) {
	if m.in == 2 && name == "o61" {
		m.turn()
	}
	return m.spy.Read(name)
}

// turns are what a drive can do to its set.
func turns() []func(set *api.Set) {
	return []func(set *api.Set){
		func(set *api.Set) { clear(set.Disks) },
		func(set *api.Set) { set.Disks = nil },
		func(set *api.Set) { set.Disks[0] = nil },
		func(set *api.Set) { set.Disks[1], set.Disks[2] = set.Disks[2], set.Disks[1] },
		func(set *api.Set) { set.Disks = append(set.Disks, drive.New(100)) },
		func(set *api.Set) { set.Shape = api.Shape{K: 1, M: 1, Block: 1} },
		func(set *api.Set) { set.Shape = api.Shape{K: 200, M: 1, Block: 1} },
		func(set *api.Set) { set.Shape = api.Shape{} },
		func(set *api.Set) { set.Store = [8]byte{} },
		func(set *api.Set) { set.Last = api.Gen{} },
		func(set *api.Set) { *set = api.Set{} },
		func(*api.Set) {},
	}
}

// All rounds are ones of the set that was handed in: a drive that turns the set in one of them turns no round and no answer, and the set is left as that drive has made it.
func TestDrivesTurnTheSet(t *testing.T) {
	for _, turn := range turns() {
		for _, shows := range [][]exhibit{{oldOne, oldOne, oldOne}, {oldOne, nothing, oldOne}, {mute(oldOne, api.ErrIO), oldOne, oldOne}, {nothing, nothing, oldOne}, {oldOne, nobody, refused(oldOne, api.ErrIO)}} {
			for in := 1; in < 3; in++ {
				for _, ofKey := range []bool{false, true} {
					call := func(set *api.Set) (string, api.Errno) {
						if ofKey {
							f, err := audit.Key(set, nil, "a")
							return fmt.Sprint(f), err
						}
						l, err := audit.All(set, nil, "")
						return fmt.Sprint(l), err
					}
					plainly := gallery(small(), shows)
					want, no := call(plainly.set)
					l := gallery(small(), shows).disks
					set := sceneOf(small(), l).set
					turned := *set
					turned.Disks = slices.Clone(set.Disks)
					m := &meddler{spy: l[2].(*spy), in: in}
					set.Disks[2], turned.Disks[2], l[2] = m, m, m
					m.turn = func() {
						turn(set)
						turned = *set
						turned.Disks = slices.Clone(set.Disks)
					}
					got, err := call(set)
					fatalUnless(t, err == no && got == want, "%s, %d, not %s, %d", got, err, want, no)
					fatalUnless(t, charts(l) == charts(plainly.disks), "the drives were asked\n%s\nnot\n%s", charts(l), charts(plainly.disks))
					fatalUnless(t, slices.Equal(set.Disks, turned.Disks) && set.Shape == turned.Shape && set.Store == turned.Store && set.Last == turned.Last, "the set was turned to %v, and is %v", turned, *set)
				}
			}
		}
	}
}

// An interface that holds a nil pointer is a drive whose calls are refused with ErrNil.
func TestNilPointers(t *testing.T) {
	for _, anew := range []func() api.Disk{
		func() api.Disk { return (*wound.Wound)(nil) },
		func() api.Disk { return (*drive.Drive)(nil) },
		func() api.Disk { return &wound.Wound{} },
	} {
		for _, shape := range shapes() {
			n := shape.K + shape.M
			for gone := range n + 1 {
				s := full(shape)
				for i := range gone {
					s.set.Disks[i] = anew()
				}
				f, err := s.one(t)
				fatalUnless(t, err == api.OK && f.Silent == gone && f.Whole+f.Stale == n-gone, "%d of %d that are not there: Key = %v, %d", gone, n, f, err)
				l, err := s.all(t)
				if gone > shape.M {
					fatalUnless(t, err == api.ErrQuorum && len(l) == 0, "%d of %d that are not there: All = %v, %d", gone, n, l, err)
				} else {
					fatalUnless(t, err == api.OK && slices.Equal(l, []api.Finding{f}), "%d of %d that are not there: All = %v, %d", gone, n, l, err)
				}
			}
		}
	}
}

// gate lets through when as many as it is for have come, again and again.
type gate struct {
	lock  sync.Mutex
	n, at int
	open  chan struct{}
}

func (g *gate) wait() {
	g.lock.Lock()
	open := g.open
	g.at++
	if g.at == g.n {
		g.at, g.open = 0, make(chan struct{})
		close(open)
	}
	g.lock.Unlock()
	<-open
}

// waiter is a drive each of whose calls waits for those of all others.
type waiter struct {
	*spy
	gate *gate
}

func (w *waiter) List() ([]string, api.Errno) {
	w.gate.wait()
	return w.spy.List()
}

func (w *waiter) Read(name string) ([]byte, api.Errno) {
	w.gate.wait()
	return w.spy.Read(name)
}

// The jobs of each round go beside one another: a drive's may wait for that of another one.
func TestDrivesAreAskedBesideOneAnother(t *testing.T) {
	shape := api.Shape{K: 10, M: 10, Block: 4}
	g := &gate{n: 20, open: make(chan struct{})}
	set := &api.Set{Shape: shape, Store: theStore(), Last: api.Gen{Epoch: 1}}
	for i := range 20 {
		set.Disks = append(set.Disks, &waiter{spy: shelf(shape, i, "a", "b", "c"), gate: g})
	}
	ended := make(chan api.Errno, 2)
	go func() {
		_, err := audit.All(set, nil, "")
		ended <- err
		_, err = audit.Key(set, nil, "a")
		ended <- err
	}()
	for range 2 {
		select {
		case err := <-ended:
			wantNumber(t, "the call", err, api.OK)
		case <-time.After(30 * time.Second):
			t.Fatal("the drives are asked one behind the other")
		}
	}
}

// All goroutines have ended when a call answers, or have nothing left to do but to end.
func TestGoroutinesEnd(t *testing.T) {
	before := runtime.NumGoroutine()
	for range 100 {
		set, w := laid(t, "a", "a/b", "b", "c")
		_, err := audit.All(set, fan.Done(true), "")
		wantNumber(t, "All", err, api.ErrStopped)
		_, err = audit.All(set, make(chan struct{}), "a")
		wantNumber(t, "All", err, api.OK)
		_, err = audit.Key(set, make(chan struct{}), "a")
		wantNumber(t, "Key", err, api.OK)
		w[1].Fuse(1, 1, 0)
		_, err = audit.All(set, nil, "")
		wantNumber(t, "All", err, api.ErrDown)
	}
	for begin := time.Now(); runtime.NumGoroutine() > before; {
		fatalUnless(t, time.Since(begin) < 30*time.Second, "%d goroutines are left, of %d", runtime.NumGoroutine(), before)
		time.Sleep(time.Millisecond)
	}
}

// someAudits are Keys and Alls in one store, and all that they answered and did.
func someAudits(seed int64) string {
	r := source(seed)
	var log strings.Builder
	set, w := ward(pick(r, shapes()...), 4000)
	for range 60 {
		misfortune(r, w[r.Intn(len(w))])
		put.Put(set, nil, pick(r, someKeys...), make([]byte, r.Intn(50)))
		l, err := audit.All(set, nil, pick(r, "", "a"))
		fmt.Fprintln(&log, l, err)
		fmt.Fprintln(&log, fmt.Sprint(audit.Worst(l)))
		f, err := audit.Key(set, nil, pick(r, someKeys...))
		fmt.Fprintln(&log, f, err, set.Last)
		for _, x := range w {
			fmt.Fprintln(&log, x.Calls(), x.Image(), x.Safe())
		}
	}
	return log.String()
}

// Nothing is kept from call to call: stores that are audited beside one another come out as each by itself.
func TestStoresBesideOneAnother(t *testing.T) {
	const many = 20
	var alone, beside [many]string
	for i := range many {
		alone[i] = someAudits(int64(i))
	}
	var group sync.WaitGroup
	for i := range many {
		group.Go(func() { beside[i] = someAudits(int64(i)) })
	}
	group.Wait()
	fatalUnless(t, alone == beside, "stores hang on one another")
}

// Whatever bytes and names the drives hold and whatever they answer, calls end, none panics, and the numbers are the chapter's.
func TestAnyBytes(t *testing.T) {
	met := map[api.Errno]int{}
	for seed := range int64(3000) {
		anew := func() scene {
			r := source(seed)
			shape := pick(r, shapes()...)
			s := sceneOf(shape, spies(shape.K+shape.M, func(i int) *spy {
				s := shelf(shape, i, someKeys...)
				for _, key := range someKeys {
					b := s.files[nameOf(key)]
					switch r.Intn(20) {
					case 0:
						b = make([]byte, r.Intn(100))
						r.Read(b)
					case 1:
						b = append(b[:r.Intn(len(b)+1)], byte(r.Intn(256)))
					case 2:
						b[r.Intn(len(b))] ^= byte(1 << r.Intn(8))
					}
					s.files[nameOf(key)] = b
				}
				for range r.Intn(5) {
					b := make([]byte, r.Intn(5))
					r.Read(b)
					s.names = append(s.names, pick(r, string(b), nameOf(string(b)), nameOf(string(b))+"0"))
				}
				if r.Intn(40) == 0 {
					s.list = pick(r, numbers...)
				}
				if r.Intn(10) == 0 {
					s.fail(pick(r, someKeys...), pick(r, numbers...))
				}
				return s
			}))
			s.prefix = pick(r, "", "", "a", string([]byte{byte(r.Intn(256))}))
			s.key = pick(r, someKeys...)
			return s
		}
		_, err := checkAll(t, anew)
		met[err]++
		_, err = checkKey(t, anew)
		met[err]++
	}
	fatalUnless(t, met[api.OK] > 1000 && met[api.ErrDown] > 20 && len(met) <= 3, "%v", met)
}

// W0: calls of much end, and in a short time: as many drives as there may be, as many names as a drive may have, great files, and wrong arguments of much.
func TestMuchEnds(t *testing.T) {
	begin := time.Now()
	for _, shape := range []api.Shape{{K: 254, M: 1, Block: 65536}, {K: 128, M: 127, Block: 2}} {
		s := shelves(shape, someKeys...)
		wantAll(t, s.set, "a", wholeOf(shape, "a", "a/b", "a/c"), api.OK)
		wantKey(t, s.set, "b", wholeOf(shape, "b")[0], api.OK)
	}
	set, _ := ward(api.Shape{K: 1, M: 1, Block: 64}, 1000)
	var keys []string
	var files [2][]api.File
	for i := range api.MaxFiles {
		keys = append(keys, fmt.Sprintf("%06d", i))
		for place, s := range shardsOf(api.Head{Store: theStore(), Shape: set.Shape, Key: keys[i], Gen: api.Gen{Epoch: 1, Count: 1}}, []byte("x")) {
			files[place] = append(files[place], api.File{Name: nameOf(keys[i]), Data: formOf(s)})
		}
	}
	for place := range set.Disks {
		set.Disks[place] = drive.Load(1<<30, files[place])
	}
	wantAll(t, set, "", wholeOf(set.Shape, keys...), api.OK)
	wantAll(t, set, strings.Repeat("k", 1<<24), nil, api.OK)
	for i := range set.Disks {
		set.Disks[i] = wound.New(drive.Load(1<<30, []api.File{{Name: "o61", Data: make([]byte, 1<<26)}}))
	}
	wantAll(t, set, "", []api.Finding{{Key: "a", Kind: api.IsMaybe, Spoilt: 2}}, api.OK)
	wantKey(t, set, strings.Repeat("k", 1<<24), api.Finding{}, api.ErrKey)
	lots := &api.Set{Disks: make([]api.Disk, 1<<22), Shape: small(), Last: api.Gen{Epoch: 1}}
	wantAll(t, lots, "", nil, api.ErrArg)
	fatalUnless(t, time.Since(begin) < 60*time.Second, "it took %v", time.Since(begin))
}

// The bytes of objects are not held, when a drive has shown them: an audit of much takes no more room than what is told of it.
func TestBytesAreLetGo(t *testing.T) {
	const many, size = 64, 1 << 20
	shape := api.Shape{K: 1, M: 1, Block: 65536}
	data := make([]byte, size)
	var most uint64
	s := sceneOf(shape, spies(2, func(place int) *spy { return &spy{} }))
	for i := range many {
		key := fmt.Sprintf("%03d", i)
		for place, x := range shardsOf(api.Head{Store: theStore(), Shape: shape, Key: key, Gen: api.Gen{Epoch: 1, Count: 1}}, data) {
			s.disks[place].(*spy).lay(key, formOf(x))
		}
	}
	held := func() uint64 {
		var m runtime.MemStats
		runtime.GC()
		runtime.ReadMemStats(&m)
		return m.HeapAlloc
	}
	before := held()
	s.disks[0].(*spy).over = func(round int) {
		if round == 2 {
			most = held()
		}
	}
	l, err := s.all(t)
	fatalUnless(t, err == api.OK && len(l) == many, "All = %v, %d", l, err)
	fatalUnless(t, most < before+many*size/2, "%d bytes were held, %d when it began", most, before)
}

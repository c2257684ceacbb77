package heal_test

import (
	"bytes"
	"fmt"
	"maps"
	"runtime"
	"slices"
	"strings"
	"sync"
	"testing"
	"time"

	"cairn/api"
	"cairn/drive"
	"cairn/fan"
	"cairn/heal"
	"cairn/put"
	"cairn/wound"
)

// P23.8: the list of drives is not changed, nor the room behind it, whatever is answered; what stands there is not called.
func TestWhatIsHandedInStaysAsItWas(t *testing.T) {
	for lost := range 4 {
		for _, done := range []<-chan struct{}{nil, fan.Done(true), make(chan struct{})} {
			disks := disksOf(spies(9, func(i int) *spy {
				if i < lost {
					return &spy{}
				}
				return oldOne(small(), min(i, 2))
			}))
			was := slices.Clone(disks)
			set := &api.Set{Disks: disks[:3], Shape: small(), Store: theStore(), Last: api.Gen{Epoch: 1, Count: 7}}
			heal.Heal(set, done)
			fatalUnless(t, slices.Equal(disks, was) && len(set.Disks) == 3 && cap(set.Disks) == cap(disks), "the drives became %v", set.Disks)
			fatalUnless(t, set.Shape == small() && set.Store == theStore() && set.Last == api.Gen{Epoch: 1, Count: 7}, "the set became %v", *set)
			for i, d := range disks[3:] {
				fatalUnless(t, d.(*spy).chart() == "", "the drive %d, behind the set's, was asked %s", 3+i, d.(*spy).chart())
			}
		}
	}
}

// What a drive tells is its own, names and bytes, with the room behind them, and neither changed nor kept.
func TestWhatADriveTellsIsItsOwn(t *testing.T) {
	s := hurt(small(), func([]subject) {})
	var all, were [][]byte
	var names, were2 [][]string
	for _, d := range s.disks {
		d := d.(*spy)
		for name, b := range d.files {
			b = append(slices.Clone(b), "behind"...)
			all, were = append(all, b), append(were, slices.Clone(b))
			d.files[name] = b[:len(b)-6]
		}
		l := []string{nameOf("c"), nameOf("b"), "zzz", "o7a", "o79"}
		names, were2 = append(names, l), append(were2, slices.Clone(l))
		d.names = l[:3]
	}
	s.wantHealed(t, "own memory", api.Healed{Written: 2, Gone: 2, Keys: 2}, api.OK)
	for i, b := range all {
		fatalUnless(t, bytes.Equal(b, were[i]), "the drive's own bytes became %x, not %x", b, were[i])
	}
	for i, l := range names {
		fatalUnless(t, slices.Equal(l, were2[i]), "the drive's own names became %q, not %q", l, were2[i])
	}
}

// greedy is a drive that overwrites all that it told and all that it was handed, with the room behind it, when a round is over, and what it was handed at once.
type greedy struct {
	*spy
	kept  [][]byte
	names [][]string
}

func (g *greedy) List() ([]string, api.Errno) {
	l, err := g.spy.List()
	l = slices.Clone(l)
	g.names = append(g.names, l)
	return l, err
}

func (g *greedy) Read(name string) ([]byte, api.Errno) {
	b, err := g.spy.Read(name)
	b = slices.Clone(b)
	g.kept = append(g.kept, b)
	return b, err
}

func (g *greedy) Append(name string, data []byte) api.Errno {
	err := g.spy.Append(name, data)
	g.kept = append(g.kept, data)
	for i := range data[:cap(data)] {
		data[:cap(data)][i] = 'Y'
	}
	return err
}

func (g *greedy) Struck() bool {
	for _, b := range g.kept {
		b = b[:cap(b)]
		for i := range b {
			b[i] = 'Z'
		}
	}
	for _, l := range g.names {
		l = l[:cap(l)]
		for i := range l {
			l[i] = "o7a"
		}
	}
	return g.spy.Struck()
}

// Drives that overwrite all that they told and were handed change nothing of what is asked and answered.
func TestGreedyDrives(t *testing.T) {
	for _, shape := range shapes() {
		for seed := range int64(40) {
			drives := func() []*spy {
				r := source(seed)
				var l []*spy
				for i := range shape.K + shape.M {
					l = append(l, pick(r, shelf(shape, i, "b", "a", "c"), shelf(shape, i, "a", "b"), shelf(shape, i, "c"), &spy{}))
				}
				return l
			}
			var mine, plainly []subject
			for _, s := range drives() {
				mine = append(mine, &greedy{spy: s})
			}
			for _, s := range drives() {
				plainly = append(plainly, s)
			}
			h, err := sceneOf(shape, mine).heal(t)
			want, no := sceneOf(shape, plainly).heal(t)
			fatalUnless(t, err == no && h == want, "Heal = %v, %d, not %v, %d", h, err, want, no)
			fatalUnless(t, charts(mine) == charts(plainly), "the drives were asked\n%s\nnot\n%s", charts(mine), charts(plainly))
			for i, s := range mine {
				same := maps.EqualFunc(s.(*greedy).files, plainly[i].(*spy).files, func(x, y []byte) bool { return bytes.Equal(x, y) })
				fatalUnless(t, same, "the drive %d holds other files", i)
			}
		}
	}
}

// meddler is a drive that reaches the set and turns it in one of the rounds, at the first call there.
type meddler struct {
	*spy
	in   int
	turn func()
	did  bool
}

func (m *meddler) now() {
	if !m.did && m.rounds == m.in {
		m.did = true
		m.turn()
	}
}

func (m *meddler) SyncDir() api.Errno {
	m.now()
	return m.spy.SyncDir()
}

func (m *meddler) Read(name string) ([]byte, api.Errno) {
	m.now()
	return m.spy.Read(name)
}

func (m *meddler) Create(name string) api.Errno {
	m.now()
	return m.spy.Create(name)
}

// All rounds are ones of the set that was handed in: a drive that turns the set in one of them turns no round and no answer, and the set is left as that drive has made it.
func TestDrivesTurnTheSet(t *testing.T) {
	met := 0
	for _, turn := range []func(set *api.Set){
		func(set *api.Set) { clear(set.Disks) },
		func(set *api.Set) { set.Disks = nil },
		func(set *api.Set) { set.Disks[0] = nil },
		func(set *api.Set) { set.Disks[0], set.Disks[1] = set.Disks[1], set.Disks[0] },
		func(set *api.Set) { set.Disks = append(set.Disks, drive.New(100)) },
		func(set *api.Set) { set.Shape = api.Shape{K: 1, M: 1, Block: 1} },
		func(set *api.Set) { set.Shape = api.Shape{K: 200, M: 1, Block: 1} },
		func(set *api.Set) { set.Shape = api.Shape{} },
		func(set *api.Set) { set.Store = [8]byte{} },
		func(set *api.Set) { set.Last = api.Gen{} },
		func(set *api.Set) { set.Last = api.Gen{Epoch: 77, Count: 1} },
		func(set *api.Set) { *set = api.Set{} },
		func(*api.Set) {},
	} {
		for in := range 7 {
			plainly := hurt(small(), func([]subject) {})
			want, no := plainly.heal(t)
			l := hurt(small(), func([]subject) {}).disks
			set := sceneOf(small(), l).set
			var turned api.Set
			m := &meddler{spy: l[2].(*spy), in: in, turn: func() {
				turn(set)
				turned = *set
				turned.Disks = slices.Clone(set.Disks)
			}}
			set.Disks[2], l[2] = m, m
			h, err := heal.Heal(set, nil)
			fatalUnless(t, h == want && err == no, "Heal = %v, %d, not %v, %d", h, err, want, no)
			fatalUnless(t, charts(l) == charts(plainly.disks), "the drives were asked\n%s\nnot\n%s", charts(l), charts(plainly.disks))
			if m.did {
				met++
				fatalUnless(t, slices.Equal(set.Disks, turned.Disks) && set.Shape == turned.Shape && set.Store == turned.Store && set.Last == turned.Last, "the set was turned to %v, and is %v", turned, *set)
			}
		}
	}
	fatalUnless(t, met > 50, "%d", met)
}

// An interface that holds a nil pointer is a drive that is there, and whose calls are refused with ErrNil.
func TestNilPointers(t *testing.T) {
	for _, anew := range []func() api.Disk{
		func() api.Disk { return (*wound.Wound)(nil) },
		func() api.Disk { return (*drive.Drive)(nil) },
		func() api.Disk { return &wound.Wound{} },
	} {
		for _, shape := range shapes() {
			n := shape.K + shape.M
			for gone := range n + 1 {
				s := shelves(shape, "a")
				for i := range gone {
					s.set.Disks[i] = anew()
				}
				want, no := api.Healed{Keys: 1}, api.ErrDegraded
				switch {
				case gone == 0:
					no = api.OK
				case gone == n:
					want = api.Healed{}
				case gone > shape.M:
					want = api.Healed{Unknown: 1}
				}
				s.wantHealed(t, fmt.Sprintf("%d of %d that are not there", gone, n), want, no)
			}
		}
	}
}

// gate lets through when as many as it is for have come, again and again.
type gate struct {
	lock  sync.Mutex
	n, at int
	open  chan struct{}
}

func (g *gate) wait() {
	g.lock.Lock()
	open := g.open
	g.at++
	if g.at == g.n {
		g.at, g.open = 0, make(chan struct{})
		close(open)
	}
	g.lock.Unlock()
	<-open
}

// waiter is a drive whose calls wait for those of all others, in the rounds of which each has the same.
type waiter struct {
	*spy
	all, lost *gate
}

func (w *waiter) List() ([]string, api.Errno) {
	w.all.wait()
	return w.spy.List()
}

func (w *waiter) Read(name string) ([]byte, api.Errno) {
	w.all.wait()
	return w.spy.Read(name)
}

func (w *waiter) Append(name string, data []byte) api.Errno {
	w.lost.wait()
	return w.spy.Append(name, data)
}

func (w *waiter) Remove(name string) api.Errno {
	w.lost.wait()
	return w.spy.Remove(name)
}

// The jobs of all rounds go beside one another: a drive's may wait for that of another one.
func TestDrivesAreAskedBesideOneAnother(t *testing.T) {
	shape := api.Shape{K: 10, M: 9, Block: 4}
	all, lost := &gate{n: 19, open: make(chan struct{})}, &gate{n: 9, open: make(chan struct{})}
	set := &api.Set{Shape: shape, Store: theStore(), Last: theLast()}
	for i := range 19 {
		s := shelf(shape, i, "a", "b")
		if i%2 == 1 { // nine of them
			s = shelf(shape, i, "c")
			delete(s.files, "l")
		}
		set.Disks = append(set.Disks, &waiter{spy: s, all: all, lost: lost})
	}
	type answer struct {
		h   api.Healed
		err api.Errno
	}
	ended := make(chan answer, 1)
	go func() {
		h, err := heal.Heal(set, nil)
		ended <- answer{h, err}
	}()
	select {
	case got := <-ended:
		want := answer{api.Healed{Written: 18, Gone: 9, Keys: 2}, api.OK}
		fatalUnless(t, got == want, "Heal = %v, not %v", got, want)
	case <-time.After(30 * time.Second):
		t.Fatal("the drives are asked one behind the other")
	}
}

// All goroutines have ended when a call answers, or have nothing left to do but to end.
func TestGoroutinesEnd(t *testing.T) {
	before := runtime.NumGoroutine()
	for range 100 {
		s, w := example(t)
		_, err := heal.Heal(s.set, fan.Done(true))
		wantNumber(t, "Heal", err, api.ErrStopped)
		w[0].Wipe()
		s.wantHealed(t, "wiped", api.Healed{Written: 1, Keys: 1}, api.OK)
		w[1].Offline(true)
		s.wantHealed(t, "offline", api.Healed{Keys: 1}, api.ErrDegraded)
		w[0].Fuse(1, 1, 0)
		s.wantHealed(t, "struck", api.Healed{}, api.ErrDown)
	}
	for begin := time.Now(); runtime.NumGoroutine() > before; {
		fatalUnless(t, time.Since(begin) < 30*time.Second, "%d goroutines are left, of %d", runtime.NumGoroutine(), before)
		time.Sleep(time.Millisecond)
	}
}

// someHeals are Heals in one store, and all that they answered and did.
func someHeals(seed int64) string {
	r := source(seed)
	var log strings.Builder
	shape := pick(r, shapes()...)
	set := &api.Set{Shape: shape, Store: theStore(), Last: api.Gen{Epoch: 1}}
	var w []*witness
	for range shape.K + shape.M {
		w = append(w, &witness{Wound: wound.New(drive.New(4000))})
		set.Disks = append(set.Disks, w[len(w)-1])
	}
	x := &world{r: r}
	for range 60 {
		x.misfortune(w[r.Intn(len(w))])
		put.Put(set, nil, pick(r, someKeys...), make([]byte, r.Intn(50)))
		h, err := heal.Heal(set, nil)
		fmt.Fprintln(&log, h, err, set.Last)
		for _, d := range w {
			fmt.Fprintln(&log, d.Calls(), d.Image(), d.Safe())
		}
	}
	return log.String()
}

// Nothing is kept from call to call: stores that are healed beside one another come out as each by itself.
func TestStoresBesideOneAnother(t *testing.T) {
	const many = 20
	var alone, beside [many]string
	for i := range many {
		alone[i] = someHeals(int64(i))
	}
	var group sync.WaitGroup
	for i := range many {
		group.Go(func() { beside[i] = someHeals(int64(i)) })
	}
	group.Wait()
	fatalUnless(t, alone == beside, "stores hang on one another")
}

// W6: whatever bytes and names the drives hold and whatever they answer, calls end, none panics, and the numbers are the chapter's.
func TestAnyBytes(t *testing.T) {
	met := map[api.Errno]int{}
	for seed := range int64(3000) {
		_, err := check(t, func() scene {
			r := source(seed)
			shape := pick(r, shapes()...)
			return sceneOf(shape, spies(shape.K+shape.M, func(i int) *spy {
				s := shelf(shape, i, someKeys...)
				for _, name := range slices.Sorted(maps.Keys(s.files)) {
					b := s.files[name]
					switch r.Intn(20) {
					case 0:
						b = make([]byte, r.Intn(100))
						r.Read(b)
					case 1:
						b = append(b[:r.Intn(len(b)+1)], byte(r.Intn(256)))
					case 2:
						b[r.Intn(len(b))] ^= byte(1 << r.Intn(8))
					}
					s.files[name] = b
				}
				for range r.Intn(5) {
					b := make([]byte, r.Intn(5))
					r.Read(b)
					s.names = append(s.names, pick(r, string(b), nameOf(string(b)), nameOf(string(b))+"0"))
				}
				if r.Intn(20) == 0 {
					s.list = pick(r, numbers...)
				}
				if r.Intn(10) == 0 {
					s.refuse(pick(r, "l", nameOf(pick(r, someKeys...))), pick(r, numbers...))
				}
				if r.Intn(10) == 0 {
					s.fail(r.Intn(40), pick(r, numbers...))
				}
				return s
			}))
		})
		met[err]++
	}
	fatalUnless(t, met[api.OK] > 300 && met[api.ErrDegraded] > 300 && met[api.ErrDown] > 20 && len(met) == 3, "%v", met)
}

// W0: calls of much end, and in a short time: as many drives as there may be, many names, great files and objects, and wrong arguments of much.
func TestMuchEnds(t *testing.T) {
	begin := time.Now()
	for _, shape := range []api.Shape{{K: 254, M: 1, Block: 65536}, {K: 128, M: 127, Block: 2}} {
		s := shelves(shape, someKeys...)
		for i := range shape.M {
			clear(s.disks[2*i].(*spy).files)
		}
		s.wantHealed(t, fmt.Sprint(shape), api.Healed{Written: 4 * shape.M, Keys: 4}, api.OK)
	}
	shape := api.Shape{K: 1, M: 1, Block: 64}
	var keys []string
	var files []api.File
	for i := range api.MaxFiles - 2 { // with a label and a temporary file as many as there may be
		keys = append(keys, fmt.Sprintf("%06d", i))
		shards := shardsOf(api.Head{Store: theStore(), Shape: shape, Key: keys[i], Gen: api.Gen{Epoch: 1, Count: 1}}, []byte("x"))
		files = append(files, api.File{Name: nameOf(keys[i]), Data: formOf(shards[0])})
	}
	set := &api.Set{Shape: shape, Store: theStore(), Last: theLast(), Disks: []api.Disk{drive.Load(1<<30, files), drive.New(1 << 30)}}
	h, err := heal.Heal(set, nil)
	fatalUnless(t, h == api.Healed{Written: len(keys), Keys: len(keys)} && err == api.OK, "Heal = %v, %d", h, err)

	shape = api.Shape{K: 2, M: 2, Block: 65536}
	data := make([]byte, api.MaxObject)
	source(241).Read(data)
	shards := shardsOf(api.Head{Store: theStore(), Shape: shape, Key: "a", Gen: api.Gen{Epoch: 1, Count: 1}}, data)
	s := sceneOf(shape, spies(4, func(i int) *spy {
		if i < 2 {
			return &spy{}
		}
		return labelled(shape, i).put("o61", formOf(shards[i]))
	}))
	s.wantHealed(t, "a great object", api.Healed{Written: 2, Keys: 1}, api.OK)
	for i, d := range s.disks {
		fatalUnless(t, bytes.Equal(d.(*spy).files["o61"], formOf(shards[i])), "the drive %d holds another shard", i)
	}
	for i := range set.Disks {
		set.Disks[i] = wound.New(drive.Load(1<<30, []api.File{{Name: "o61", Data: make([]byte, 1<<26)}}))
	}
	h, err = heal.Heal(set, nil)
	fatalUnless(t, h == api.Healed{Unknown: 1} && err == api.ErrDegraded, "Heal = %v, %d", h, err)
	lots := &api.Set{Disks: make([]api.Disk, 1<<22), Shape: small(), Last: api.Gen{Epoch: 1}}
	_, err = heal.Heal(lots, nil)
	wantNumber(t, "Heal", err, api.ErrArg)
	fatalUnless(t, time.Since(begin) < 60*time.Second, "it took %v", time.Since(begin))
}

// A drive that has no room, or as many names as it may have, gets no shard and no label; then the healing is not whole.
func TestNoRoom(t *testing.T) {
	s := sceneOf(small(), wounds(shelves(small(), "a").disks))
	full := patient{wound.New(drive.New(31))}
	s.set.Disks[1], s.disks[1] = full, full
	s.wantHealed(t, "room for a label alone", api.Healed{Keys: 1}, api.ErrDegraded)
	wantNames(t, full.Wound, "l", "t")
	full = patient{wound.New(drive.New(30))}
	s.set.Disks[1], s.disks[1] = full, full
	s.wantHealed(t, "room for no label", api.Healed{Keys: 1}, api.ErrDegraded)
	wantNames(t, full.Wound, "t")
	var files []api.File
	for i := range api.MaxFiles {
		files = append(files, api.File{Name: fmt.Sprint("x", i)})
	}
	full = patient{wound.New(drive.Load(1000, files))}
	s.set.Disks[1], s.disks[1] = full, full
	s.wantHealed(t, "too many names", api.Healed{Keys: 1}, api.ErrDegraded)
	wantGet(t, s.set, "a", "of a")
}

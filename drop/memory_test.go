package drop_test

import (
	"bytes"
	"fmt"
	"runtime"
	"slices"
	"strings"
	"sync"
	"testing"
	"time"

	"cairn/api"
	"cairn/drive"
	"cairn/drop"
	"cairn/fan"
	"cairn/put"
	"cairn/wound"
)

// The list of drives is not changed, nor the room behind it, whatever is answered; what stands there is not called.
func TestWhatIsHandedInStaysAsItWas(t *testing.T) {
	for _, key := range []string{"a", "b", ""} {
		for _, done := range []<-chan struct{}{nil, fan.Done(true), make(chan struct{})} {
			disks := disksOf(spies(9, func(i int) *spy { return oldOne(small(), min(i, 2)) }))
			was := slices.Clone(disks)
			set := &api.Set{Disks: disks[:3], Shape: small(), Store: theStore(), Last: api.Gen{Epoch: 1, Count: 7}}
			drop.Delete(set, done, key)
			fatalUnless(t, slices.Equal(disks, was) && len(set.Disks) == 3 && cap(set.Disks) == cap(disks), "the drives became %v", set.Disks)
			fatalUnless(t, set.Shape == small() && set.Store == theStore() && set.Last == api.Gen{Epoch: 1, Count: 7}, "the set became %v", *set)
			for i, d := range disks[3:] {
				fatalUnless(t, d.(*spy).chart() == "", "the drive %d, behind the set's, was asked %s", 3+i, d.(*spy).chart())
			}
		}
	}
}

// What a drive tells is its own, and neither changed nor kept.
func TestWhatADriveTellsIsItsOwn(t *testing.T) {
	for _, wrong := range []int{-1, 5, 40} {
		s := full(small())
		var all, were [][]byte
		for i, d := range s.disks {
			b := append(d.(*spy).bytes, "behind"...)
			if wrong >= 0 && i == 1 {
				b[wrong] ^= 1
			}
			all, were = append(all, b), append(were, slices.Clone(b))
			d.(*spy).bytes = b[:len(b)-6]
		}
		wantNumber(t, "Delete", s.delete(t), api.OK)
		for i, b := range all {
			fatalUnless(t, bytes.Equal(b, were[i]), "the drive's own bytes became %x, not %x", b, were[i])
		}
	}
}

// greedy is a drive that overwrites all that it told, with the room behind it, when a round is over.
type greedy struct {
	spy
	kept [][]byte
}

func (g *greedy) Read(name string) ([]byte, api.Errno) {
	b, err := g.spy.Read(name)
	b = slices.Clone(b)
	g.kept = append(g.kept, b)
	return b, err
}

func (g *greedy) Struck() bool {
	for _, b := range g.kept {
		b = b[:cap(b)]
		for i := range b {
			b[i] = 'Z'
		}
	}
	return g.spy.Struck()
}

// Drives that overwrite all that they told change nothing of what is done and answered.
func TestGreedyDrives(t *testing.T) {
	for _, shape := range shapes() {
		for stand := range shape.K + shape.M + 1 {
			shows := slices.Repeat([]exhibit{nothing}, shape.K+shape.M)
			l := make([]subject, len(shows))
			for i := range l {
				if i < stand {
					shows[i] = oldOne
				}
				l[i] = &greedy{spy: *shows[i](shape, i)}
			}
			mine, plainly := sceneOf(shape, l, "a"), gallery(shape, shows)
			wantNumber(t, "Delete", mine.delete(t), plainly.delete(t))
			fatalUnless(t, charts(mine.disks) == charts(plainly.disks), "the drives were asked\n%s\nnot\n%s", charts(mine.disks), charts(plainly.disks))
		}
	}
}

// meddler is a drive that reaches the set and turns it in one of the rounds.
type meddler struct {
	spy
	in   int
	turn func()
}

func (m *meddler) Read(name string) ([]byte, api.Errno) {
	if m.in == 1 {
		m.turn()
	}
	return m.spy.Read(name)
}

func (m *meddler) Remove(name string) api.Errno {
	if m.in == 2 {
		m.turn()
	}
	return m.spy.Remove(name)
}

// Both rounds are ones of the set that was handed in: a drive that turns the set in one of them turns no round and no answer, and the set is left as that drive has made it.
func TestDrivesTurnTheSet(t *testing.T) {
	for _, turn := range []func(set *api.Set){
		func(set *api.Set) { clear(set.Disks) },
		func(set *api.Set) { set.Disks = nil },
		func(set *api.Set) { set.Disks[0] = nil },
		func(set *api.Set) { set.Disks[1], set.Disks[2] = set.Disks[2], set.Disks[1] },
		func(set *api.Set) { set.Disks = append(set.Disks, drive.New(100)) },
		func(set *api.Set) { set.Shape = api.Shape{K: 1, M: 1, Block: 1} },
		func(set *api.Set) { set.Shape = api.Shape{K: 200, M: 1, Block: 1} },
		func(set *api.Set) { set.Shape = api.Shape{} },
		func(set *api.Set) { set.Store = [8]byte{} },
		func(set *api.Set) { set.Last = api.Gen{} },
		func(set *api.Set) { *set = api.Set{} },
		func(*api.Set) {},
	} {
		for _, shows := range [][]exhibit{{oldOne, oldOne, oldOne}, {oldOne, nothing, oldOne}, {refused(oldOne, theSyncDir, api.ErrIO), oldOne, oldOne}, {nothing, nothing, oldOne}} {
			for in := 1; in < 3; in++ {
				plainly := gallery(small(), shows)
				want := plainly.delete(t)
				l := gallery(small(), shows).disks
				set := sceneOf(small(), l, "a").set
				var turned api.Set
				m := &meddler{in: in, turn: func() {
					turn(set)
					turned = *set
					turned.Disks = slices.Clone(set.Disks)
				}}
				m.bytes = l[2].(*spy).bytes
				set.Disks[2], l[2] = m, m
				wantNumber(t, "Delete", drop.Delete(set, nil, "a"), want)
				fatalUnless(t, charts(l) == charts(plainly.disks), "the drives were asked\n%s\nnot\n%s", charts(l), charts(plainly.disks))
				if in == 1 || want != api.ErrNotFound {
					fatalUnless(t, slices.Equal(set.Disks, turned.Disks) && set.Shape == turned.Shape && set.Store == turned.Store && set.Last == turned.Last, "the set was turned to %v, and is %v", turned, *set)
				}
			}
		}
	}
}

// An interface that holds a nil pointer is a drive whose calls are refused with ErrNil.
func TestNilPointers(t *testing.T) {
	for _, anew := range []func() api.Disk{
		func() api.Disk { return (*wound.Wound)(nil) },
		func() api.Disk { return (*drive.Drive)(nil) },
		func() api.Disk { return &wound.Wound{} },
	} {
		for _, shape := range shapes() {
			n := shape.K + shape.M
			for gone := range n + 1 {
				s := full(shape)
				for i := range gone {
					s.set.Disks[i] = anew()
				}
				want := api.ErrQuorum
				if gone < shape.M {
					want = api.OK
				}
				wantNumber(t, fmt.Sprint(gone, " of ", n, " that are not there: Delete"), s.delete(t), want)
			}
		}
	}
}

// gate lets through when as many as it is for have come, again and again.
type gate struct {
	lock  sync.Mutex
	n, at int
	open  chan struct{}
}

func (g *gate) wait() {
	g.lock.Lock()
	open := g.open
	g.at++
	if g.at == g.n {
		g.at, g.open = 0, make(chan struct{})
		close(open)
	}
	g.lock.Unlock()
	<-open
}

// waiter is a drive each of whose calls waits for those of all others.
type waiter struct {
	spy
	gate *gate
}

func (w *waiter) Read(name string) ([]byte, api.Errno) {
	w.gate.wait()
	return w.spy.Read(name)
}

func (w *waiter) Remove(name string) api.Errno {
	w.gate.wait()
	return w.spy.Remove(name)
}

func (w *waiter) SyncDir() api.Errno {
	w.gate.wait()
	return w.spy.SyncDir()
}

// The jobs of both rounds go beside one another: a drive's may wait for that of another one.
func TestDrivesAreAskedBesideOneAnother(t *testing.T) {
	shape := api.Shape{K: 10, M: 10, Block: 4}
	g := &gate{n: 20, open: make(chan struct{})}
	set := &api.Set{Shape: shape, Store: theStore(), Last: api.Gen{Epoch: 1}}
	for i := range 20 {
		set.Disks = append(set.Disks, &waiter{spy: *oldOne(shape, i), gate: g})
	}
	ended := make(chan api.Errno, 1)
	go func() { ended <- drop.Delete(set, nil, "a") }()
	select {
	case err := <-ended:
		wantNumber(t, "Delete", err, api.OK)
	case <-time.After(30 * time.Second):
		t.Fatal("the drives are asked one behind the other")
	}
}

// All goroutines have ended when a call answers, or have nothing left to do but to end.
func TestGoroutinesEnd(t *testing.T) {
	before := runtime.NumGoroutine()
	for range 100 {
		set, w := laid(t)
		wantNumber(t, "Put", put.Put(set, nil, "b", nil), api.OK)
		wantNumber(t, "Delete", drop.Delete(set, fan.Done(true), "a"), api.ErrStopped)
		wantNumber(t, "Delete", drop.Delete(set, nil, "a"), api.OK)
		wantNumber(t, "Delete", drop.Delete(set, nil, "a"), api.ErrNotFound)
		w[1].Fuse(1, 1, 0)
		wantNumber(t, "Delete", drop.Delete(set, make(chan struct{}), "b"), api.ErrDown)
	}
	for begin := time.Now(); runtime.NumGoroutine() > before; {
		fatalUnless(t, time.Since(begin) < 30*time.Second, "%d goroutines are left, of %d", runtime.NumGoroutine(), before)
		time.Sleep(time.Millisecond)
	}
}

// someDeletes are Deletes in one store, and all that they answered and did.
func someDeletes(seed int64) string {
	r := source(seed)
	var log strings.Builder
	set, w := ward(pick(r, shapes()...), 2000)
	for range 60 {
		misfortune(r, &witness{patient: patient{w[r.Intn(len(w))]}})
		put.Put(set, nil, pick(r, "a", "b", "c"), make([]byte, r.Intn(50)))
		fmt.Fprintln(&log, drop.Delete(set, nil, pick(r, "a", "b", "c")), set.Last)
		for _, x := range w {
			fmt.Fprintln(&log, x.Calls(), x.Image(), x.Safe())
		}
	}
	return log.String()
}

// Nothing is kept from call to call: stores in which is deleted beside one another come out as each by itself.
func TestStoresBesideOneAnother(t *testing.T) {
	const many = 20
	var alone, beside [many]string
	for i := range many {
		alone[i] = someDeletes(int64(i))
	}
	var group sync.WaitGroup
	for i := range many {
		group.Go(func() { beside[i] = someDeletes(int64(i)) })
	}
	group.Wait()
	fatalUnless(t, alone == beside, "stores hang on one another")
}

// Whatever bytes the drives hold and whatever they answer, calls end, none panics, and the numbers are the chapter's.
func TestAnyBytes(t *testing.T) {
	r := source(217)
	met := map[api.Errno]int{}
	for range 4000 {
		shape := pick(r, shapes()...)
		held := spies(shape.K+shape.M, func(i int) *spy {
			s := oldOne(shape, i)
			switch r.Intn(12) {
			case 0:
				s.bytes = make([]byte, r.Intn(100))
				r.Read(s.bytes)
			case 1:
				s.bytes = append(s.bytes[:r.Intn(len(s.bytes)+1)], byte(r.Intn(256)))
			case 2:
				s.bytes[r.Intn(len(s.bytes))] ^= byte(1 << r.Intn(8))
			case 3:
				s.bytes = nil
			case 4:
				s.fail(r.Intn(3), pick(r, numbers...))
			}
			return s
		})
		met[check(t, func() scene {
			return sceneOf(shape, spies(len(held), func(i int) *spy { return &spy{bytes: held[i].(*spy).bytes, errs: held[i].(*spy).errs} }), "a")
		})]++
	}
	fatalUnless(t, met[api.OK] > 1000 && met[api.ErrQuorum] > 100 && met[api.ErrNotFound] > 30 && met[api.ErrDown] > 10 && len(met) == 4, "%v", met)
}

// W0: calls of much end, and in a short time: as many drives as there may be, great files under the key's name, the greatest objects, and wrong arguments of much.
func TestMuchEnds(t *testing.T) {
	begin := time.Now()
	data := make([]byte, api.MaxObject)
	for _, shape := range []api.Shape{{K: 254, M: 1, Block: 65536}, {K: 128, M: 127, Block: 2}, {K: 1, M: 1, Block: 256}} {
		set, w := ward(shape, 4<<20)
		wantNumber(t, "Put", put.Put(set, nil, "a", data), api.OK)
		for _, x := range w[:shape.M-1] {
			x.Offline(true)
		}
		wantNumber(t, "Delete", drop.Delete(set, nil, "a"), api.OK)
		wantNumber(t, "Delete", drop.Delete(set, nil, "a"), api.ErrNotFound)
		wantNumber(t, "Delete", drop.Delete(set, nil, strings.Repeat("k", 1<<20)), api.ErrKey)
	}
	set, w := ward(small(), 1<<20)
	for i := range w {
		w[i] = wound.New(drive.Load(1<<30, []api.File{{Name: "o61", Data: make([]byte, 1<<26)}}))
		set.Disks[i] = w[i]
	}
	wantNumber(t, "Delete", drop.Delete(set, nil, "a"), api.ErrQuorum)
	lots := &api.Set{Disks: make([]api.Disk, 1<<22), Shape: small(), Last: api.Gen{Epoch: 1}}
	wantNumber(t, "Delete", drop.Delete(lots, nil, "a"), api.ErrArg)
	fatalUnless(t, time.Since(begin) < 60*time.Second, "it took %v", time.Since(begin))
}

package put_test

import (
	"bytes"
	"fmt"
	"runtime"
	"slices"
	"strings"
	"sync"
	"testing"
	"time"

	"cairn/api"
	"cairn/drive"
	"cairn/put"
	"cairn/wound"
)

// The data and the drives are not changed, nor the room behind them, whatever is answered; what stands there is not read.
func TestWhatIsHandedInStaysAsItWas(t *testing.T) {
	for _, key := range []string{"a", ""} {
		for _, count := range []int{0, api.MaxCount} {
			for n := range 30 {
				room := bytes.Repeat([]byte("spare"), 10)
				disks := disksOf(plain(9))
				was := slices.Clone(disks)
				set := &api.Set{Disks: disks[:3], Shape: small(), Last: api.Gen{Epoch: 1, Count: count}}
				put.Put(set, nil, key, room[:n])
				fatalUnless(t, string(room) == strings.Repeat("spare", 10), "the data became %q", room)
				fatalUnless(t, slices.Equal(disks, was) && len(set.Disks) == 3 && set.Shape == small() && set.Store == [8]byte{}, "the set became %v", *set)
				for i, d := range disks[3:] {
					fatalUnless(t, d.(*spy).chart() == "", "the drive %d, behind the set's, was asked %s", 3+i, d.(*spy).chart())
				}
			}
		}
	}
}

// The data are not kept: what becomes of them behind the Put says nothing.
func TestDataAreNotKept(t *testing.T) {
	set, w := ward(small(), 1000)
	data := []byte("hello world")
	wantNumber(t, "Put", put.Put(set, nil, "a", data), api.OK)
	before := fmt.Sprint(w[0].Image(), w[1].Image(), w[2].Image())
	for i := range data {
		data[i] = 'Z'
	}
	fatalUnless(t, fmt.Sprint(w[0].Image(), w[1].Image(), w[2].Image()) == before, "the drives hold the caller's bytes")
	shards := shardsOf(api.Head{Store: set.Store, Shape: set.Shape, Key: "a", Gen: set.Last}, []byte("hello world"))
	for i, x := range w {
		b, err := x.Read("o61")
		fatalUnless(t, err == api.OK && bytes.Equal(b, formOf(shards[i])), "the drive %d holds %x, %d", i, b, err)
	}
}

// greedy is a drive that keeps what it is handed and told and overwrites it, with the room behind it, whenever it is called.
type greedy struct {
	spy
	kept [][]byte
}

func (g *greedy) spoil() {
	for _, b := range g.kept {
		b = b[:cap(b)]
		for i := range b {
			b[i] = 'Z'
		}
	}
}

func (g *greedy) Append(name string, data []byte) api.Errno {
	err := g.spy.Append(name, data)
	g.kept = append(g.kept, data)
	g.spoil()
	return err
}

func (g *greedy) Read(name string) ([]byte, api.Errno) {
	b, err := g.spy.Read(name)
	b = slices.Clone(b)
	g.kept = append(g.kept, b)
	return b, err
}

func (g *greedy) Struck() bool {
	g.spoil()
	return g.spy.Struck()
}

// Drives that overwrite all that they were handed and told change nothing of what is done and answered, nor the data.
func TestGreedyDrives(t *testing.T) {
	for _, shape := range shapes() {
		for stands := range 3 {
			anew := func() scene {
				l := make([]subject, shape.K+shape.M)
				for i := range l {
					g := &greedy{}
					if i < stands {
						g.bytes = older(shape, i).bytes
					}
					l[i] = g
				}
				return sceneOf(shape, l, "a", []byte("hello world"))
			}
			checkPut(t, anew)
			s := anew()
			err := s.put(t)
			other := sceneOf(shape, spies(len(s.disks), func(i int) *spy { return &spy{bytes: s.disks[i].(*greedy).bytes} }), "a", []byte("hello world"))
			wantNumber(t, "Put", other.put(t), err)
			fatalUnless(t, charts(s.disks) == charts(other.disks), "the drives were asked\n%s\nnot\n%s", charts(s.disks), charts(other.disks))
		}
	}
}

// What a drive tells is neither changed nor kept.
func TestWhatADriveTellsIsItsOwn(t *testing.T) {
	for _, wrong := range []int{-1, 5, 40} {
		b := append(older(small(), 0).bytes, "behind"...)
		if wrong >= 0 {
			b[wrong] ^= 1
		}
		was := slices.Clone(b)
		s := sceneOf(small(), spies(3, func(i int) *spy {
			if i == 0 {
				return &spy{bytes: b[:len(b)-6]}
			}
			return &spy{}
		}), "a", []byte("x"))
		wantNumber(t, "Put", s.put(t), api.OK)
		fatalUnless(t, bytes.Equal(b, was), "the drive's own bytes became %x, not %x", b, was)
	}
}

// meddler is a drive that reaches the set and turns it when it is asked for the key.
type meddler struct {
	spy
	turn func()
}

func (m *meddler) Read(name string) ([]byte, api.Errno) {
	m.turn()
	return m.spy.Read(name)
}

// meddled is a set of three drives of which the first turns it.
func meddled(turn func(set *api.Set)) (*api.Set, *meddler, []subject) {
	l := plain(2)
	set := &api.Set{Shape: small(), Store: [8]byte{7, 7: 9}, Last: api.Gen{Epoch: 3, Count: 5}}
	m := &meddler{turn: func() { turn(set) }}
	set.Disks = []api.Disk{m, l[0], l[1]}
	return set, m, l
}

// Both rounds are ones of the set that was handed in: a drive that turns the set in the first one turns no round.
func TestDrivesTurnTheSet(t *testing.T) {
	plainly := sceneOf(small(), plain(3), "a", []byte("hello"))
	wantNumber(t, "Put", plainly.put(t), api.OK)
	for _, turn := range []func(set *api.Set){
		func(set *api.Set) { clear(set.Disks) },
		func(set *api.Set) { set.Disks = nil },
		func(set *api.Set) { set.Disks[1], set.Disks[2] = set.Disks[2], set.Disks[1] },
		func(set *api.Set) { set.Disks = append(set.Disks, drive.New(100)) },
		func(set *api.Set) { set.Shape = api.Shape{K: 1, M: 1, Block: 1} },
		func(set *api.Set) { set.Shape = api.Shape{} },
		func(set *api.Set) { set.Store = [8]byte{} },
		func(*api.Set) {},
	} {
		var turned api.Set
		set, m, l := meddled(func(set *api.Set) {
			turn(set)
			turned = *set
			turned.Disks = slices.Clone(set.Disks)
		})
		wantNumber(t, "Put", put.Put(set, nil, "a", []byte("hello")), api.OK)
		fatalUnless(t, set.Last == api.Gen{Epoch: 3, Count: 6}, "Last became %v", set.Last)
		fatalUnless(t, slices.Equal(set.Disks, turned.Disks) && set.Shape == turned.Shape && set.Store == turned.Store, "the set was turned to %v, and is %v", turned, *set)
		for i, d := range []subject{m, l[0], l[1]} {
			fatalUnless(t, d.chart() == plainly.disks[i].chart(), "the drive %d was asked\n%s\nnot\n%s", i, d.chart(), plainly.disks[i].chart())
		}
	}
}

// A drive that makes of Last what no writing can have: nothing is written, and nothing panics.
func TestDrivesTurnLast(t *testing.T) {
	for _, last := range []api.Gen{{}, {Epoch: 3, Count: -1}, {Epoch: 3, Count: -7}, {Epoch: 3, Count: api.MaxCount}, {Epoch: api.MaxEpoch + 1, Count: 1}, {Epoch: 0, Count: 1}} {
		set, m, l := meddled(func(set *api.Set) { set.Last = last })
		err := put.Put(set, nil, "a", []byte("hello"))
		fatalUnless(t, err == api.ErrArg && set.Last == last, "Put = %d; Last was made %v, and is %v", err, last, set.Last)
		for i, d := range []subject{m, l[0], l[1]} {
			fatalUnless(t, d.chart() == `Read "o61"; Struck; Rest false`, "the drive %d was asked %s", i, d.chart())
		}
	}
}

// A drive that puts something else to the set meanwhile: no two writings have one generation.
func TestAPutWithinAPut(t *testing.T) {
	within := api.Errno(-1)
	once := false
	set, m, l := meddled(func(set *api.Set) {
		if !once {
			once = true
			other := &api.Set{Disks: disksOf(plain(3)), Shape: set.Shape, Store: set.Store, Last: set.Last}
			within = put.Put(other, nil, "b", []byte("x"))
			set.Last = other.Last
		}
	})
	wantNumber(t, "Put", put.Put(set, nil, "a", []byte("x")), api.OK)
	wantNumber(t, "the Put within", within, api.OK)
	fatalUnless(t, set.Last == api.Gen{Epoch: 3, Count: 7}, "Last became %v", set.Last)
	for i, d := range []subject{m, l[0], l[1]} {
		form := fmt.Sprintf("%x", formOf(shardsOf(api.Head{Store: set.Store, Shape: small(), Key: "a", Gen: set.Last}, []byte("x"))[i]))
		fatalUnless(t, strings.Contains(d.chart(), form), "the drive %d was asked %s", i, d.chart())
	}
}

// An interface that holds a nil pointer is a drive whose calls are refused with ErrNil.
func TestNilPointers(t *testing.T) {
	for _, anew := range []func() api.Disk{
		func() api.Disk { return (*wound.Wound)(nil) },
		func() api.Disk { return (*drive.Drive)(nil) },
		func() api.Disk { return &wound.Wound{} },
	} {
		for _, shape := range shapes() {
			n := shape.K + shape.M
			for gone := range n + 1 {
				set := &api.Set{Disks: disksOf(plain(n)), Shape: shape, Last: api.Gen{Epoch: 1}}
				for i := range gone {
					set.Disks[i] = anew()
				}
				want := api.ErrQuorum
				if gone < shape.M {
					want = api.OK
				}
				wantNumber(t, fmt.Sprint(gone, " of ", n, " that are not there: Put"), put.Put(set, nil, "a", []byte("x")), want)
			}
		}
	}
}

// gate lets through when as many as it is for have come, again and again.
type gate struct {
	lock  sync.Mutex
	n, at int
	open  chan struct{}
}

func newGate(n int) *gate { return &gate{n: n, open: make(chan struct{})} }

func (g *gate) wait() {
	g.lock.Lock()
	open := g.open
	g.at++
	if g.at == g.n {
		g.at, g.open = 0, make(chan struct{})
		close(open)
	}
	g.lock.Unlock()
	<-open
}

// waiter is a drive each of whose calls waits for those of all others.
type waiter struct {
	spy
	gate *gate
}

func (w *waiter) Read(name string) ([]byte, api.Errno) {
	w.gate.wait()
	return w.spy.Read(name)
}

func (w *waiter) Append(name string, data []byte) api.Errno {
	w.gate.wait()
	return w.spy.Append(name, data)
}

func (w *waiter) SyncDir() api.Errno {
	w.gate.wait()
	return w.spy.SyncDir()
}

// Rounds go beside one another: a drive's job may wait for that of another one.
func TestDrivesAreAskedBesideOneAnother(t *testing.T) {
	const n = 20
	set := &api.Set{Shape: api.Shape{K: 10, M: 10, Block: 4}, Last: api.Gen{Epoch: 1}}
	gate := newGate(n)
	for range n {
		set.Disks = append(set.Disks, &waiter{gate: gate})
	}
	ended := make(chan api.Errno, 1)
	go func() { ended <- put.Put(set, nil, "a", []byte("hello")) }()
	select {
	case err := <-ended:
		wantNumber(t, "Put", err, api.OK)
	case <-time.After(30 * time.Second):
		t.Fatal("the drives are asked one behind the other")
	}
}

// All goroutines have ended when a call answers, or have nothing left to do but to end.
func TestGoroutinesEnd(t *testing.T) {
	before := runtime.NumGoroutine()
	for range 100 {
		set, w := ward(small(), 1000)
		wantPut(t, set, nil, "a", "x", api.OK, 1, 1)
		wantPut(t, set, nil, "a", "x", api.ErrExists, 1, 1)
		wantPut(t, set, stoppedNow(), "b", "x", api.ErrStopped, 1, 1)
		w[1].Fuse(1, 2, 0)
		wantPut(t, set, make(chan struct{}), "b", "x", api.ErrDown, 1, 2)
	}
	for begin := time.Now(); runtime.NumGoroutine() > before; {
		fatalUnless(t, time.Since(begin) < 30*time.Second, "%d goroutines are left, of %d", runtime.NumGoroutine(), before)
		time.Sleep(time.Millisecond)
	}
}

// somePuts are Puts to one store, and all that they answered and did.
func somePuts(seed int64) string {
	r := source(seed)
	var log strings.Builder
	set, w := ward(pick(r, shapes()...), 2000)
	for range 40 {
		strike(r, patient{w[r.Intn(len(w))]})
		data := make([]byte, r.Intn(50))
		r.Read(data)
		fmt.Fprintln(&log, put.Put(set, nil, pick(r, "a", "b", "c", "d", fmt.Sprint(r.Intn(50))), data), set.Last)
		for _, x := range w {
			fmt.Fprintln(&log, x.Calls(), x.Image(), x.Safe())
		}
	}
	return log.String()
}

// Nothing is kept from call to call: stores that are put to beside one another come out as each by itself.
func TestStoresBesideOneAnother(t *testing.T) {
	const many = 20
	var alone, beside [many]string
	for i := range many {
		alone[i] = somePuts(int64(i))
	}
	var group sync.WaitGroup
	for i := range many {
		group.Go(func() { beside[i] = somePuts(int64(i)) })
	}
	group.Wait()
	fatalUnless(t, alone == beside, "stores hang on one another")
}

// W0: calls of much end, and in a short time: as many drives as there may be, great files under the key's name, and the greatest objects.
func TestMuchEnds(t *testing.T) {
	begin := time.Now()
	data := make([]byte, api.MaxObject)
	for _, shape := range []api.Shape{{K: 254, M: 1, Block: 65536}, {K: 128, M: 127, Block: 2}, {K: 1, M: 1, Block: 256}} {
		set, _ := ward(shape, 4<<20)
		wantPut(t, set, nil, "a", string(data), api.OK, 1, 1)
		wantPut(t, set, nil, "a", string(data), api.ErrExists, 1, 1)
	}
	set, w := ward(small(), 1<<20)
	for i := range w {
		w[i] = wound.New(drive.Load(1<<30, []api.File{{Name: "o61", Data: make([]byte, 1<<26)}}))
		set.Disks[i] = w[i]
	}
	wantPut(t, set, nil, "a", "x", api.ErrQuorum, 1, 0)
	for range 1000 {
		wantNumber(t, "Put", put.Put(set, nil, "b", make([]byte, 1<<22)), api.ErrLarge)
		wantNumber(t, "Put", put.Put(set, nil, strings.Repeat("k", 1<<20), nil), api.ErrKey)
	}
	many := &api.Set{Disks: make([]api.Disk, 1<<22), Shape: small(), Last: api.Gen{Epoch: 1}}
	wantPut(t, many, nil, "a", "x", api.ErrArg, 1, 0)
	fatalUnless(t, time.Since(begin) < 60*time.Second, "it took %v", time.Since(begin))
}

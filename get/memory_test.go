package get_test

import (
	"bytes"
	"fmt"
	"runtime"
	"slices"
	"strings"
	"sync"
	"testing"
	"time"

	"cairn/api"
	"cairn/drive"
	"cairn/fan"
	"cairn/get"
	"cairn/put"
	"cairn/wound"
)

// standing are drives that show the old one, each at its place.
func standing(shape api.Shape, n int) []subject {
	return spies(n, func(i int) *spy { return oldOne(shape, min(i, shape.K+shape.M-1)) })
}

// P20.8: the list of drives is not changed, nor the room behind it; what stands there is not read.
func TestWhatIsHandedInStaysAsItWas(t *testing.T) {
	for _, key := range []string{"a", "b", ""} {
		for _, r := range append(readings(), ranging(9, 9), ranging(-1, 0)) {
			disks := disksOf(standing(small(), 9))
			was := slices.Clone(disks)
			set := &api.Set{Disks: disks[:3], Shape: small(), Store: theStore(), Last: api.Gen{Epoch: 1}}
			r.call(scene{set: set, key: key})
			fatalUnless(t, slices.Equal(disks, was) && len(set.Disks) == 3 && set.Shape == small() && set.Store == theStore() && set.Last == api.Gen{Epoch: 1}, "the set became %v", *set)
			for i, d := range disks[3:] {
				fatalUnless(t, d.(*spy).chart() == "", "the drive %d, behind the set's, was asked %s", 3+i, d.(*spy).chart())
			}
		}
	}
}

// P20.8: what a drive tells is neither changed nor kept: answers and the drives' own bytes share nothing.
func TestWhatADriveTellsIsItsOwn(t *testing.T) {
	for _, r := range readings() {
		for _, wrong := range []int{-1, 5, 40} {
			s := sceneOf(small(), standing(small(), 3), "a")
			var all, were [][]byte
			for i, d := range s.disks {
				b := append(d.(*spy).bytes, "behind"...)
				if wrong >= 0 && i == 1 {
					b[wrong] ^= 1
				}
				all, were = append(all, b), append(were, slices.Clone(b))
				d.(*spy).bytes = b[:len(b)-6]
			}
			got := s.read(t, r)
			was := fmt.Sprint(got)
			for i, b := range all {
				fatalUnless(t, bytes.Equal(b, were[i]), "%s: the drive's own bytes became %x, not %x", r.says, b, were[i])
				overwrite(b)
			}
			fatalUnless(t, fmt.Sprint(got) == was, "%s: the answer was %s, and is %v", r.says, was, got)
		}
	}
}

// overwrite writes over a list, its spare room too.
func overwrite(b []byte) {
	b = b[:cap(b)]
	for i := range b {
		b[i] = 'Z'
	}
}

// wantApart writes over each of the lists, its spare room too, and wants none to be touched by another one's turn.
func wantApart[E any](t *testing.T, says string, lists [][]E, mark func(i int) E, is func(e E, i int) bool) {
	t.Helper()
	room := 0
	for i, l := range lists {
		for j := range l[:cap(l)] {
			l[:cap(l)][j] = mark(i)
			room++
		}
	}
	fatalUnless(t, room > 0, "%s: nothing to write over", says)
	for i, l := range lists {
		for j, e := range l[:cap(l)] {
			fatalUnless(t, is(e, i), "%s: the list %d has at %d (of %d) what was written to another one: %v", says, i, j, len(l), e)
		}
	}
}

// P20.8: answers share no memory, spare room too: neither two of them, nor two lists of one, nor one and what the drives tell.
func TestAnswersShareNoMemory(t *testing.T) {
	for _, shape := range append(shapes(), api.Shape{K: 10, M: 3, Block: 1}) {
		data := "hello wide world, hello"
		for stand := shape.K; stand <= shape.K+shape.M; stand++ {
			show := stored(api.Gen{Epoch: 2, Count: 2}, data, asItIs)
			shows := slices.Concat(slices.Repeat([]exhibit{show}, stand), slices.Repeat([]exhibit{nothing}, shape.K+shape.M-stand))
			s := gallery(shape, shows)
			var plainBytes [][]byte
			var places [][]int
			var blocks [][][]byte
			var seen [][]api.Seen
			for _, d := range s.disks {
				plainBytes = append(plainBytes, d.(*spy).bytes)
			}
			for _, r := range append(readings(), readings()...) {
				got := s.read(t, r)
				wantNumber(t, r.says, got.err, api.OK)
				plainBytes, places, seen = append(plainBytes, got.data), append(places, got.verdict.Places), append(seen, got.seen)
				for _, x := range got.seen {
					blocks = append(blocks, x.Shard.Blocks)
					plainBytes = append(plainBytes, x.Shard.Blocks...)
				}
			}
			wantApart(t, "bytes", plainBytes, func(i int) byte { return byte(i) }, func(b byte, i int) bool { return b == byte(i) })
			wantApart(t, "Places", places, func(i int) int { return -i }, func(n, i int) bool { return n == -i })
			wantApart(t, "Blocks", blocks, func(i int) []byte { return make([]byte, i) }, func(b []byte, i int) bool { return len(b) == i })
			wantApart(t, "seen", seen, func(i int) api.Seen { return api.Seen{Kind: -i} }, func(x api.Seen, i int) bool { return x.Kind == -i })
		}
	}
}

// greedy is a drive that overwrites all that it told, with the room behind it, when the round is over.
type greedy struct {
	spy
	kept [][]byte
}

func (g *greedy) Read(name string) ([]byte, api.Errno) {
	b, err := g.spy.Read(name)
	b = slices.Clone(b)
	g.kept = append(g.kept, b)
	return b, err
}

func (g *greedy) Struck() bool {
	for _, b := range g.kept {
		overwrite(b)
	}
	return g.spy.Struck()
}

// Drives that overwrite all that they told change nothing of what is answered.
func TestGreedyDrives(t *testing.T) {
	for _, shape := range shapes() {
		for _, r := range append(readings(), ranging(1, 3)) {
			for stand := range shape.K + shape.M + 1 {
				l := make([]subject, shape.K+shape.M)
				shows := make([]exhibit, len(l))
				for i := range l {
					shows[i] = nothing
					if i < stand {
						shows[i] = oldOne
					}
					l[i] = &greedy{spy: *shows[i](shape, i)}
				}
				got := sceneOf(shape, l, "a").read(t, r)
				want := gallery(shape, shows).read(t, r)
				fatalUnless(t, same(got, want), "%s = %v, not %v", r.says, got, want)
			}
		}
	}
}

// meddler is a drive that reaches the set and turns it when it is asked for the key.
type meddler struct {
	spy
	turn func()
}

func (m *meddler) Read(name string) ([]byte, api.Errno) {
	m.turn()
	return m.spy.Read(name)
}

// The round is one of the set that was handed in: a drive that turns the set in it turns no answer.
func TestDrivesTurnTheSet(t *testing.T) {
	for _, turn := range []func(set *api.Set){
		func(set *api.Set) { clear(set.Disks) },
		func(set *api.Set) { set.Disks = nil },
		func(set *api.Set) { set.Disks[1], set.Disks[2] = set.Disks[2], set.Disks[1] },
		func(set *api.Set) { set.Disks = append(set.Disks, drive.New(100)) },
		func(set *api.Set) { set.Shape = api.Shape{K: 1, M: 1, Block: 1} },
		func(set *api.Set) { set.Shape = api.Shape{} },
		func(set *api.Set) { set.Store = [8]byte{} },
		func(set *api.Set) { set.Last = api.Gen{} },
		func(set *api.Set) { *set = api.Set{} },
	} {
		for _, r := range append(readings(), ranging(1, 3)) {
			for _, shows := range [][]exhibit{{oldOne, oldOne, oldOne}, {oldOne, oldOne, nothing}, {nothing, nothing, oldOne}, {nobody, nothing, spoiled(oldOne, func(b []byte) []byte { return b[1:] })}} {
				want := gallery(small(), shows).read(t, r)
				l := gallery(small(), shows).disks
				set := sceneOf(small(), l, "a").set
				m := &meddler{turn: func() { turn(set) }}
				m.bytes = l[2].(*spy).bytes
				set.Disks[2] = m
				got := r.call(scene{set: set, key: "a"})
				fatalUnless(t, same(got, want), "%s = %v, not %v", r.says, got, want)
				for i, d := range []subject{l[0], l[1], m} {
					fatalUnless(t, d == nil || d.chart() == `Read "o61"; Struck; Rest false`, "the drive %d: %v", i, d)
				}
			}
		}
	}
}

// An interface that holds a nil pointer is a drive whose calls are refused with ErrNil.
func TestNilPointers(t *testing.T) {
	for _, anew := range []func() api.Disk{
		func() api.Disk { return (*wound.Wound)(nil) },
		func() api.Disk { return (*drive.Drive)(nil) },
		func() api.Disk { return &wound.Wound{} },
	} {
		for _, shape := range shapes() {
			n := shape.K + shape.M
			for gone := range n + 1 {
				s := sceneOf(shape, standing(shape, n), "a")
				for i := range gone {
					s.set.Disks[i] = anew()
				}
				want := api.OK
				if gone > shape.M {
					want = api.ErrQuorum
				}
				wantNumber(t, fmt.Sprint(gone, " of ", n, " that are not there: Get"), s.read(t, getting()).err, want)
				seen := s.read(t, looking()).seen
				for i := range gone {
					fatalUnless(t, seen[i].Kind == api.SeenSilent && seen[i].Err == api.ErrNil, "Look = %v", seen)
				}
			}
		}
	}
}

// gate lets through when as many as it is for have come, again and again.
type gate struct {
	lock  sync.Mutex
	n, at int
	open  chan struct{}
}

func (g *gate) wait() {
	g.lock.Lock()
	open := g.open
	g.at++
	if g.at == g.n {
		g.at, g.open = 0, make(chan struct{})
		close(open)
	}
	g.lock.Unlock()
	<-open
}

// waiter is a drive whose Read waits for those of all others.
type waiter struct {
	spy
	gate *gate
}

func (w *waiter) Read(name string) ([]byte, api.Errno) {
	w.gate.wait()
	return w.spy.Read(name)
}

// A round's jobs go beside one another: a drive's may wait for that of another one.
func TestDrivesAreAskedBesideOneAnother(t *testing.T) {
	shape := api.Shape{K: 10, M: 10, Block: 4}
	g := &gate{n: 20, open: make(chan struct{})}
	set := &api.Set{Shape: shape, Store: theStore(), Last: api.Gen{Epoch: 1}}
	for i := range 20 {
		set.Disks = append(set.Disks, &waiter{spy: *oldOne(shape, i), gate: g})
	}
	ended := make(chan answer, 1)
	for _, r := range readings() {
		go func() { ended <- r.call(scene{set: set, key: "a"}) }()
		select {
		case got := <-ended:
			wantNumber(t, r.says, got.err, api.OK)
		case <-time.After(30 * time.Second):
			t.Fatal("the drives are asked one behind the other")
		}
	}
}

// All goroutines have ended when a call answers, or have nothing left to do but to end.
func TestGoroutinesEnd(t *testing.T) {
	before := runtime.NumGoroutine()
	for range 100 {
		set, w := laid(t)
		for _, key := range []string{"a", "b", ""} {
			for _, r := range append(readings(), ranging(9, 9)) {
				r.call(scene{set: set, key: key})
			}
		}
		wantGet(t, set, fan.Done(true), "a", "", api.Gen{}, api.ErrStopped)
		w[1].Fuse(0, 0, 0)
		wantGet(t, set, make(chan struct{}), "a", "", api.Gen{}, api.ErrDown)
	}
	for begin := time.Now(); runtime.NumGoroutine() > before; {
		fatalUnless(t, time.Since(begin) < 30*time.Second, "%d goroutines are left, of %d", runtime.NumGoroutine(), before)
		time.Sleep(time.Millisecond)
	}
}

// someReadings are readings of one store, and all that they answered.
func someReadings(seed int64) string {
	r := source(seed)
	var log strings.Builder
	set, w := ward(pick(r, shapes()...), 2000)
	for range 60 {
		misfortune(r, w[r.Intn(len(w))])
		key := pick(r, "a", "b", "c")
		data := make([]byte, r.Intn(50))
		r.Read(data)
		put.Put(set, nil, key, data)
		for _, x := range append(readings(), ranging(r.Intn(50), r.Intn(50))) {
			fmt.Fprintln(&log, x.call(scene{set: set, key: key}))
		}
	}
	return log.String()
}

// Nothing is kept from call to call: stores that are read beside one another come out as each by itself.
func TestStoresBesideOneAnother(t *testing.T) {
	const many = 20
	var alone, beside [many]string
	for i := range many {
		alone[i] = someReadings(int64(i))
	}
	var group sync.WaitGroup
	for i := range many {
		group.Go(func() { beside[i] = someReadings(int64(i)) })
	}
	group.Wait()
	fatalUnless(t, alone == beside, "stores hang on one another")
}

// Whatever bytes the drives hold, calls end, none panics, and the numbers are the chapter's.
func TestAnyBytes(t *testing.T) {
	r := source(210)
	met := map[api.Errno]int{}
	for range 4000 {
		shape := pick(r, shapes()...)
		held := spies(shape.K+shape.M, func(i int) *spy {
			s := oldOne(shape, i)
			for range r.Intn(3) {
				switch r.Intn(5) {
				case 0:
					s.bytes = make([]byte, r.Intn(100))
					r.Read(s.bytes)
				case 1:
					s.bytes = append(s.bytes[:r.Intn(len(s.bytes)+1)], byte(r.Intn(256)))
				case 2:
					s.bytes[r.Intn(len(s.bytes)+1)%max(1, len(s.bytes))] ^= byte(1 << r.Intn(8))
				}
				if len(s.bytes) == 0 {
					s.bytes = []byte{0}
				}
			}
			return s
		})
		copied := func() scene {
			return sceneOf(shape, spies(len(held), func(i int) *spy { return &spy{bytes: held[i].(*spy).bytes} }), "a")
		}
		met[checkAll(t, copied, ranging(r.Intn(8), r.Intn(8)))]++
	}
	wantMet(t, met, api.OK, api.ErrQuorum) // some byte stands at each place
}

// W0: calls of much end, and in a short time: as many drives as there may be, great files under the key's name, the greatest objects, and wrong arguments of much.
func TestMuchEnds(t *testing.T) {
	begin := time.Now()
	data := make([]byte, api.MaxObject)
	for _, shape := range []api.Shape{{K: 254, M: 1, Block: 65536}, {K: 128, M: 127, Block: 2}, {K: 1, M: 1, Block: 256}} {
		set, w := ward(shape, 4<<20)
		wantNumber(t, "Put", put.Put(set, nil, "a", data), api.OK)
		for _, x := range w[:shape.M] {
			x.Wipe()
		}
		got, _, err := get.Get(set, nil, "a")
		fatalUnless(t, err == api.OK && bytes.Equal(got, data), "Get tells %d bytes, %d", len(got), err)
		wantRange(t, set, "a", api.MaxObject-3, 9, "\x00\x00\x00", api.OK)
		wantGet(t, set, nil, strings.Repeat("k", 1<<20), "", api.Gen{}, api.ErrKey)
	}
	set, w := ward(small(), 1<<20)
	for i := range w {
		w[i] = wound.New(drive.Load(1<<30, []api.File{{Name: "o61", Data: make([]byte, 1<<26)}}))
		set.Disks[i] = w[i]
	}
	wantGet(t, set, nil, "a", "", api.Gen{}, api.ErrQuorum)
	many := &api.Set{Disks: make([]api.Disk, 1<<22), Shape: small(), Last: api.Gen{Epoch: 1}}
	wantGet(t, many, nil, "a", "", api.Gen{}, api.ErrArg)
	fatalUnless(t, time.Since(begin) < 60*time.Second, "it took %v", time.Since(begin))
}

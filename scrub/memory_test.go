package scrub_test

import (
	"bytes"
	"fmt"
	"math"
	"reflect"
	"runtime"
	"slices"
	"strings"
	"sync"
	"testing"
	"time"

	"cairn/api"
	"cairn/drive"
	"cairn/fan"
	"cairn/scrub"
	"cairn/votes"
	"cairn/wound"
)

// spoil overwrites a list with the room behind it.
func spoil[E any](l []E, with E) {
	l = l[:cap(l)]
	for i := range l {
		l[i] = with
	}
}

// roomy is a copy with room behind it, in which something stands, and all of it.
func roomy[E any](l []E, behind E) (short, all []E) {
	all = append(slices.Clone(l), behind, behind, behind)
	return all[:len(l)], all
}

// P29.8: what Judge is handed stays as it was, with the room behind it: the set, the verdict, what is seen with its blocks.
func TestJudgeLeavesWhatItIsHanded(t *testing.T) {
	r := source(2981)
	for range 600 {
		shape := pick(r, moreShapes()...)
		n := shape.K + shape.M
		seen := make([]api.Seen, n)
		for i := range seen {
			seen[i] = pick(r, right, right, right, turned(0), pick(r, exhibits()...))(shape, i)
			for j, b := range seen[i].Shard.Blocks {
				seen[i].Shard.Blocks[j], _ = roomy(b, 'X')
			}
			if seen[i].Shard.Blocks != nil {
				seen[i].Shard.Blocks, _ = roomy(seen[i].Shard.Blocks, []byte("behind"))
			}
		}
		v := pick(r, verdicts(shape, seen)...)
		v.Places, _ = roomy(v.Places, 99)
		set := set0(shape)
		l := shelves(shape)
		set.Disks, _ = roomy(disksOf(l), api.Disk(l[0]))
		seen, _ = roomy(seen, bare(api.SeenSpoilt)(shape, 0))
		was := copies(set, v, seen)
		scrub.Judge(set, "a", v, seen)
		fatalUnless(t, reflect.DeepEqual(copies(set, v, seen), was), "%v: what was handed in became another", shape)
		for _, d := range l {
			fatalUnless(t, d.news() == "", "a drive was called")
		}
	}
}

func disksOf[S subject](l []S) []api.Disk {
	disks := make([]api.Disk, len(l))
	for i, s := range l {
		disks[i] = s
	}
	return disks
}

// whole is a list with the room behind it.
func whole[E any](l []E) []E { return slices.Clone(l[:cap(l)]) }

// copies are copies of all that is handed to Judge.
func copies(set *api.Set, v api.Verdict, seen []api.Seen) []any {
	c := *set
	c.Disks = whole(set.Disks)
	v.Places = whole(v.Places)
	seen = whole(seen)
	for i := range seen {
		blocks := whole(seen[i].Shard.Blocks)
		for j := range blocks {
			blocks[j] = whole(blocks[j])
		}
		seen[i].Shard.Blocks = blocks
	}
	return []any{c, v, seen}
}

// P29.8: a step leaves the set as it was, and calls no drive that stands in the room behind its list.
func TestAStepLeavesTheSet(t *testing.T) {
	p := paired(small(), func() []*spy { return shelves(small(), "a", "hello", "b", "bye") })
	behind := &spy{}
	var all []api.Disk
	p.set.Disks, all = roomy(p.set.Disks, api.Disk(behind))
	was, disks := *p.set, slices.Clone(all)
	for _, budget := range []int{1, 0, 1, 5, 2} {
		p.step(t, nil, budget)
		p.step(t, fan.Done(true), budget)
	}
	p.each(func(_ *api.Set, l []*spy) { l[1].refuse(api.ErrDown, "List") })
	p.number(t, nil, 1, api.ErrDown)
	fatalUnless(t, slices.Equal(all, disks) && len(p.set.Disks) == 3 && &p.set.Disks[0] == &all[0] && p.set.Shape == was.Shape && p.set.Store == was.Store && p.set.Last == was.Last, "the set was %v, and is %v", was, *p.set)
	fatalUnless(t, behind.news() == "", "a drive behind the set's was called")
}

// P29.8: lists that are answered are new memory: a caller may overwrite them, with the room behind them.
func TestAnswersAreNewMemory(t *testing.T) {
	set, w := laid(t, small(), "a", "1", "b", "2", "c", "3", "d", "4", "e", "5")
	w[1].Wipe()
	s := scrub.New(set)
	seen := make([]api.Seen, 3)
	v := api.Verdict{Kind: api.IsUnknown}
	ask := []func() []api.Find{
		func() []api.Find { l, _, _ := s.Step(nil, 1); return l },
		func() []api.Find { l, _, _ := s.Step(nil, 2); return l },
		func() []api.Find { l, _, _ := scrub.New(set).Step(nil, 9); return l },
		func() []api.Find { return scrub.Judge(set, "a", v, seen) },
	}
	var all, were [][]api.Find
	for range 10 {
		for _, ask := range ask {
			l := ask()
			fatalUnless(t, len(l) > 0, "nothing is found")
			all, were = append(all, l), append(were, slices.Clone(l))
		}
	}
	for i, l := range all {
		fatalUnless(t, slices.Equal(l, were[i]), "%v became %v", were[i], l)
		spoil(l, api.Find{Key: "X"})
	}
	want := []api.Find{find("a", 1, 1, 1), find("b", 1, 1, 2), find("c", 1, 1, 3), find("d", 1, 1, 4), find("e", 1, 1, 5)}
	wantStep(t, scrub.New(set), 9, true, want...)
}

// What a drive tells is its own, names and bytes, and neither changed nor kept; their order stays.
func TestWhatADriveTellsIsItsOwn(t *testing.T) {
	l := shelves(small(), "a", "hello", "b", "you", "c", "bye")
	var all, were [][]byte
	var names, were2 [][]string
	for _, d := range l {
		for _, key := range []string{"a", "b", "c"} {
			b, whole := roomy(d.files[nameOf(key)], 'X')
			d.files[nameOf(key)] = b
			all, were = append(all, whole), append(were, slices.Clone(whole))
		}
		short, whole := roomy([]string{"o63", "o61", "o62", "o61"}, "o7a")
		d.told = short
		names, were2 = append(names, whole), append(were2, slices.Clone(whole))
	}
	s := scrub.New(setOf(small(), l))
	wantStep(t, s, 2, false)
	wantAt(t, s, "b", 2)
	for i, b := range all {
		fatalUnless(t, bytes.Equal(b, were[i]), "the drive's own bytes became %x, not %x", b, were[i])
	}
	for i, l := range names {
		fatalUnless(t, slices.Equal(l, were2[i]), "the drive's own names became %q, not %q", l, were2[i])
	}
}

// greedy is a drive that overwrites all that it told, with the room behind it, when a round is over.
type greedy struct {
	*spy
	kept  [][]byte
	names [][]string
}

func (g *greedy) List() ([]string, api.Errno) {
	l, err := g.spy.List()
	l = slices.Clone(l)
	g.names = append(g.names, l)
	return l, err
}

func (g *greedy) Read(name string) ([]byte, api.Errno) {
	b, err := g.spy.Read(name)
	b = slices.Clone(b)
	g.kept = append(g.kept, b)
	return b, err
}

func (g *greedy) Struck() bool {
	for _, b := range g.kept {
		spoil(b, 'Z')
	}
	for _, l := range g.names {
		spoil(l, "o7a")
	}
	return g.spy.Struck()
}

// Drives that overwrite all that they told change nothing of what is asked and answered.
func TestGreedyDrives(t *testing.T) {
	for _, shape := range shapes() {
		for stand := range shape.K + shape.M + 1 {
			anew := func() []*spy {
				l := shelves(shape, "a", "hello", "a/b", "you", "b", "bye")
				for _, d := range l[stand:] {
					delete(d.files, nameOf("b"))
				}
				l[0].files[nameOf("a")][20] ^= 1
				return l
			}
			p := paired(shape, anew)
			for i, d := range p.mine {
				p.set.Disks[i] = &greedy{spy: d}
			}
			for _, budget := range []int{1, 1, 5, 2, 2} {
				p.number(t, nil, budget, api.OK)
			}
		}
	}
}

// meddler is a drive that reaches the set and turns it in one of the rounds.
type meddler struct {
	*spy
	in   int
	turn func()
}

func (m *meddler) meddle() {
	if m.rounds == m.in {
		m.turn()
	}
}

func (m *meddler) List() ([]string, api.Errno) {
	m.meddle()
	return m.spy.List()
}

func (m *meddler) Read(name string) ([]byte, api.Errno) {
	m.meddle()
	return m.spy.Read(name)
}

// turns are what a drive can do to its set.
func turns() []func(set *api.Set) {
	return append(faults(),
		func(set *api.Set) { clear(set.Disks) },
		func(set *api.Set) { set.Disks[0] = nil },
		func(set *api.Set) { set.Disks[1], set.Disks[2] = set.Disks[2], set.Disks[1] },
		func(set *api.Set) { set.Disks = append(set.Disks, drive.New(100)) },
		func(set *api.Set) { set.Shape, set.Disks = api.Shape{K: 1, M: 1, Block: 1}, set.Disks[:2] },
		func(set *api.Set) { set.Store = [8]byte{} },
		func(*api.Set) {},
	)
}

// All rounds of a step are ones of the set as it was when the step began: a drive that turns the set in one of them turns no round and no answer of this step, and the set is left as that drive has made it, for the next one.
func TestDrivesTurnTheSet(t *testing.T) {
	for which, turn := range turns() {
		for in := range 4 { // the names, and three keys
			p := paired(small(), func() []*spy { return shelves(small(), "a", "1", "b", "2", "c", "3") })
			p.each(func(_ *api.Set, l []*spy) { l[0].files[nameOf("b")][20] ^= 1; delete(l[1].files, nameOf("c")) })
			m := &meddler{spy: p.mine[2], in: in}
			p.set.Disks[2] = m
			turned := *p.set
			m.turn = func() {
				turn(p.set)
				turned = *p.set
				turned.Disks = slices.Clone(p.set.Disks)
			}
			finds := p.number(t, nil, 9, api.OK)
			fatalUnless(t, slices.Equal(finds, []api.Find{find("b", 0, api.FoundSpoilt, 2), find("c", 1, api.FoundMissing, 3)}), "the turn %d in round %d: %v", which, in, finds)
			fatalUnless(t, slices.Equal(p.set.Disks, turned.Disks) && p.set.Shape == turned.Shape && p.set.Store == turned.Store && p.set.Last == turned.Last, "the set was turned to %v, and is %v", turned, *p.set)
		}
	}
}

// An interface that holds a nil pointer is a drive whose calls are refused with ErrNil.
func TestNilPointers(t *testing.T) {
	for _, anew := range []func() api.Disk{
		func() api.Disk { return (*wound.Wound)(nil) },
		func() api.Disk { return (*drive.Drive)(nil) },
		func() api.Disk { return &wound.Wound{} },
	} {
		for _, shape := range shapes() {
			for gone := range shape.K + shape.M + 1 {
				set, _ := laid(t, shape, "a", "hello")
				var want []api.Find
				for i := range gone {
					set.Disks[i] = anew()
					want = append(want, find("a", i, api.FoundSilent, 1))
				}
				s := scrub.New(set)
				if gone <= shape.M {
					wantStep(t, s, 1, true, want...)
					continue
				}
				l, end, err := s.Step(nil, 1)
				fatalUnless(t, len(l) == 0 && !end && err == api.ErrQuorum, "%v, %d", l, err)
			}
		}
	}
}

// gate lets through when as many as it is for have come, again and again.
type gate struct {
	lock  sync.Mutex
	n, at int
	open  chan struct{}
}

func (g *gate) wait() {
	g.lock.Lock()
	open := g.open
	g.at++
	if g.at == g.n {
		g.at, g.open = 0, make(chan struct{})
		close(open)
	}
	g.lock.Unlock()
	<-open
}

// waiter is a drive each of whose calls waits for those of all others.
type waiter struct {
	*spy
	gate *gate
}

func (w *waiter) List() ([]string, api.Errno) {
	w.gate.wait()
	return w.spy.List()
}

func (w *waiter) Read(name string) ([]byte, api.Errno) {
	w.gate.wait()
	return w.spy.Read(name)
}

// The jobs of each round go beside one another: a drive's may wait for that of another one.
func TestDrivesAreAskedBesideOneAnother(t *testing.T) {
	shape := api.Shape{K: 10, M: 10, Block: 4}
	g := &gate{n: 20, open: make(chan struct{})}
	set := &api.Set{Shape: shape, Store: theStore(), Last: gen(1)}
	for _, d := range shelves(shape, "a", "1", "b", "2", "c", "3") {
		set.Disks = append(set.Disks, &waiter{spy: d, gate: g})
	}
	ended := make(chan api.Errno, 1)
	go func() {
		_, _, err := scrub.New(set).Step(nil, 5)
		ended <- err
	}()
	select {
	case err := <-ended:
		wantNumber(t, "Step", err, api.OK)
	case <-time.After(30 * time.Second):
		t.Fatal("the drives are asked one behind the other")
	}
}

// All goroutines have ended when a call answers, or have nothing left to do but to end.
func TestGoroutinesEnd(t *testing.T) {
	before := runtime.NumGoroutine()
	for range 100 {
		set, w := laid(t, small(), "a", "1", "b", "2", "c", "3")
		s := scrub.New(set)
		_, _, err := s.Step(fan.Done(true), 5)
		wantNumber(t, "Step", err, api.ErrStopped)
		_, _, err = s.Step(make(chan struct{}), 2)
		wantNumber(t, "Step", err, api.OK)
		w[1].Fuse(1, 0, 0)
		_, _, err = s.Step(nil, 2)
		wantNumber(t, "Step", err, api.ErrDown)
	}
	for begin := time.Now(); runtime.NumGoroutine() > before; {
		fatalUnless(t, time.Since(begin) < 30*time.Second, "%d goroutines are left, of %d", runtime.NumGoroutine(), before)
		time.Sleep(time.Millisecond)
	}
}

// someSteps are steps of a walk, with harm between them, and all that they answered and did.
func someSteps(seed int64) string {
	r := source(seed)
	var log strings.Builder
	shape := pick(r, shapes()...)
	var w []patient
	for range shape.K + shape.M {
		w = append(w, patient{wound.New(drive.New(8000))})
	}
	s := scrub.New(setOf(shape, w))
	for range 60 {
		place := r.Intn(len(w))
		someHarm(r, shape, place, w[place])
		finds, end, err := s.Step(nil, 1+r.Intn(4))
		fmt.Fprintln(&log, finds, end, err, s.Place(), s.Seen())
		for _, x := range w {
			fmt.Fprintln(&log, x.news())
			if r.Intn(3) == 0 {
				x.Power(true)
			}
		}
	}
	return log.String()
}

// Nothing is kept from call to call but where a walk is: walks of unlike stores beside one another come out as each by itself.
func TestWalksBesideOneAnother(t *testing.T) {
	const many = 20
	var alone, beside [many]string
	for i := range many {
		alone[i] = someSteps(int64(i))
	}
	var group sync.WaitGroup
	for i := range many {
		group.Go(func() { beside[i] = someSteps(int64(i)) })
	}
	group.Wait()
	fatalUnless(t, alone == beside, "walks hang on one another")
}

// Judge may be asked by many at one time, of the same things.
func TestManyJudges(t *testing.T) {
	shape := api.Shape{K: 2, M: 2, Block: 3}
	seen := []api.Seen{right(shape, 0), turned(1)(shape, 1), right(shape, 2), right(shape, 3)}
	set, v := set0(shape), votes.Judge(shape, seen)
	var group sync.WaitGroup
	for range 8 {
		group.Go(func() {
			for range 200 {
				got := scrub.Judge(set, "a", v, seen)
				if !slices.Equal(got, []api.Find{find("a", 1, api.FoundWrong, 3)}) {
					t.Errorf("%v", got)
				}
			}
		})
	}
	group.Wait()
}

// Whatever bytes and names the drives hold and whatever they answer, calls end, none panics, and the numbers are the chapter's.
func TestAnyBytes(t *testing.T) {
	met := map[api.Errno]int{}
	for seed := range int64(1500) {
		r := source(seed)
		shape := pick(r, shapes()...)
		p := paired(shape, func() []*spy {
			r := source(seed)
			l := shelves(shape, "a", "hello", "b", "some more bytes", "\xff", "")
			for _, s := range l {
				for _, key := range []string{"a", "b", "\xff"} {
					b := s.files[nameOf(key)]
					switch r.Intn(15) {
					case 0:
						b = make([]byte, r.Intn(100))
						r.Read(b)
					case 1:
						b = append(b[:r.Intn(len(b)+1)], byte(r.Intn(256)))
					case 2:
						b[r.Intn(len(b))] ^= byte(1 << r.Intn(8))
					case 3:
						delete(s.files, nameOf(key))
						continue
					}
					s.lay(nameOf(key), b)
				}
				s.told = []string{nameOf("b"), nameOf("a")}
				for range r.Intn(5) {
					b := make([]byte, r.Intn(5))
					r.Read(b)
					s.told = append(s.told, pick(r, string(b), nameOf(string(b)), nameOf(string(b))+"0"))
				}
				if r.Intn(40) == 0 {
					s.refuse(pick(r, numbers...), "List")
				}
				if r.Intn(10) == 0 {
					s.refuse(pick(r, numbers...), fmt.Sprintf("Read %q", nameOf(pick(r, "a", "b"))))
				}
			}
			return l
		})
		for range 3 {
			_, _, err := p.step(t, nil, 1+r.Intn(9))
			met[err]++
		}
	}
	fatalUnless(t, met[api.OK] > 1000 && met[api.ErrDown] > 20 && len(met) <= 3, "%v", met)
}

// W0: calls of much end, and in a short time: as many drives as there may be, as many names as a drive may have, great files, many blocks, and wrong arguments of much.
func TestMuchEnds(t *testing.T) {
	begin := time.Now()
	set, _ := laid(t, api.Shape{K: 1, M: 1, Block: 64})
	var files [2][]api.File
	for i := range api.MaxFiles {
		key := fmt.Sprintf("%06d", i)
		for place, s := range shardsOf(set.Shape, key, "x", gen(1)) {
			files[place] = append(files[place], api.File{Name: nameOf(key), Data: formOf(s)})
		}
	}
	for place := range set.Disks {
		set.Disks[place] = drive.Load(1<<30, files[place])
	}
	s := scrub.New(set)
	wantStep(t, s, api.MaxFiles-1, false)
	wantStep(t, s, math.MaxInt, true)
	wantAt(t, s, "065535", api.MaxFiles)
	for i := range set.Disks {
		set.Disks[i] = drive.Load(1<<30, []api.File{{Name: "o61", Data: make([]byte, 1<<26)}})
	}
	wantStep(t, s, 1, true, find("a", -1, api.FoundUnknown, 0), find("a", 0, api.FoundSpoilt, 0), find("a", 1, api.FoundSpoilt, 0))
	for _, shape := range []api.Shape{{K: 128, M: 127, Block: 4096}, {K: 2, M: 2, Block: 128}} { // an object as great as there may be
		data := bytes.Repeat([]byte("great one"), api.MaxObject/9)
		var seen []api.Seen
		for _, s := range shardsOf(shape, "a", string(data), gen(1)) {
			seen = append(seen, api.Seen{Kind: api.SeenShard, Shard: s})
		}
		for _, b := range seen[3].Shard.Blocks {
			b[len(b)-1]++
		}
		got := scrub.Judge(set0(shape), "a", votes.Judge(shape, seen), seen)
		fatalUnless(t, slices.Equal(got, []api.Find{find("a", 3, api.FoundWrong, 1)}), "%v", got)
	}
	lots := &api.Set{Disks: make([]api.Disk, 1<<22), Shape: small(), Last: gen(1)}
	_, _, err := scrub.New(lots).Step(nil, 1)
	wantNumber(t, "Step", err, api.ErrArg)
	many := right(small(), 0)
	many.Shard.Blocks = make([][]byte, 1<<20)
	got := scrub.Judge(set0(small()), "a", api.Verdict{Kind: api.IsValue, Gen: many.Shard.Gen, Size: many.Shard.Size}, []api.Seen{many, many, many})
	fatalUnless(t, slices.Equal(got, []api.Find{find("a", -1, api.FoundUnknown, 3)}), "%v", got)
	fatalUnless(t, len(scrub.Judge(set0(small()), "a", api.Verdict{}, make([]api.Seen, 1<<22))) == 0, "too many places are judged")
	fatalUnless(t, time.Since(begin) < 60*time.Second, "it took %v", time.Since(begin))
}

// The bytes of objects are let go, when a key has been judged: a step of much takes no more room than what is found.
func TestBytesAreLetGo(t *testing.T) {
	const many, size = 64, 1 << 14
	shape := api.Shape{K: 1, M: 1, Block: 4096}
	l := shelves(shape)
	data := strings.Repeat("some", size/4)
	for i := range many {
		key := fmt.Sprintf("%03d", i)
		for place, s := range shardsOf(shape, key, data, gen(1)) {
			l[place].lay(nameOf(key), formOf(s))
		}
	}
	held := func() uint64 {
		var m runtime.MemStats
		runtime.GC()
		runtime.ReadMemStats(&m)
		return m.HeapAlloc
	}
	var most uint64
	before := held()
	l[0].over = func(round int) {
		if round == many {
			most = held()
		}
	}
	s := scrub.New(setOf(shape, l))
	wantStep(t, s, many, true)
	fatalUnless(t, most < before+many*size/2, "%d bytes were held in the last round, %d when it began", most, before)
	after := held()
	fatalUnless(t, after < before+many*size/2, "%d bytes are held, %d when it began", after, before)
	runtime.KeepAlive(s)
}

package opening_test

import (
	"fmt"
	"runtime"
	"slices"
	"strings"
	"sync"
	"testing"
	"time"

	"cairn/api"
	"cairn/drive"
	"cairn/opening"
	"cairn/wound"
)

// P18.8: the marks are not changed, nor the room behind them; what stands there is not read.
func TestMarksStayAsTheyWere(t *testing.T) {
	r := source(190)
	for range 2000 {
		all := someMarks(r, 12, small())
		was := slices.Clone(all)
		n := r.Intn(13)
		checkArrange(t, all[:n])
		fatalUnless(t, slices.Equal(all, was), "Arrange makes of %v %v", was, all)
	}
}

// P18.8: each layout is new memory, with the room behind it.
func TestLayoutsShareNoMemory(t *testing.T) {
	marks := []api.Mark{at('A', 0, 5), blank(), at('A', 1, 5)}
	first, _ := opening.Arrange(marks)
	second, _ := opening.Arrange(marks)
	all := first.Places[:cap(first.Places)]
	for i := range all {
		all[i] = 77
	}
	third, _ := opening.Arrange(marks)
	fatalUnless(t, slices.Equal(second.Places, []int{0, 2, 1}) && slices.Equal(third.Places, []int{0, 2, 1}), "another layout became %v, %v", second, third)
	fatalUnless(t, marks[0] == at('A', 0, 5), "the marks became %v", marks)
}

// P18.8: a layout is not touched by what becomes of the marks.
func TestLayoutsAreTheirOwn(t *testing.T) {
	marks := []api.Mark{at('A', 0, 5), blank(), at('A', 1, 5)}
	l, _ := opening.Arrange(marks)
	for i := range marks {
		marks[i] = at('B', 2, 9)
	}
	fatalUnless(t, sameLayout(l, api.Layout{Store: [8]byte{'A'}, Shape: small(), Epoch: 5, Places: []int{0, 2, 1}}), "the layout became %v", l)
}

// P18.8: the lists of drives are not changed, nor the room behind them, whatever is answered.
func TestListsOfDrivesStayAsTheyWere(t *testing.T) {
	for n := range 6 {
		for _, epoch := range []int{5, api.MaxEpoch} {
			all := disksOf(spies(6, func(i int) *spy {
				if i == 4 {
					return nil
				}
				return &spy{bytes: form(at('A', 2-i%3, epoch).Label), names: []string{"z", "l", "a"}}
			})())
			was := slices.Clone(all)
			opening.Open(all[:n])
			opening.Format(all[:n], small(), [8]byte{})
			fatalUnless(t, slices.Equal(all, was), "the list of %d became %v", n, all)
		}
	}
}

// P18.8: a set and its list of drives are new memory: neither the caller's list nor another set's.
func TestSetsShareNoMemory(t *testing.T) {
	w := formatted(t, small(), 'A', 200)
	disks := listOf(w, 0, 1, 2)
	first, _ := opening.Open(disks)
	second, _ := opening.Open(disks)
	fatalUnless(t, first != second, "one set is answered twice")
	clear(first.Disks[:cap(first.Disks)])
	*first = api.Set{}
	want := listOf(w, 0, 1, 2)
	fatalUnless(t, slices.Equal(disks, want) && slices.Equal(second.Disks, want) && second.Last.Epoch == 2, "the list became %v, the other set %v", disks, second)
	clear(disks)
	fatalUnless(t, slices.Equal(second.Disks, want), "the set became %v", second)
	wantOpen(t, w, []int{0, 1, 2}, []int{0, 1, 2}, 3)
}

// P18.8: what a drive tells is neither changed nor kept.
func TestWhatADriveTellsIsItsOwn(t *testing.T) {
	names := []string{"z", "l", "a", "a", "t", "behind", "beyond"}
	was := slices.Clone(names)
	b := append(form(at('A', 0, 5).Label), 1, 2, 3)
	bytesWere := slices.Clone(b)
	l := []api.Disk{&spy{names: names[:5], bytes: b[:31]}, &spy{bytes: form(at('A', 1, 5).Label)}, &spy{}}
	set, err := opening.Open(l)
	fatalUnless(t, err == api.OK && set.Store == [8]byte{'A'}, "Open = %v, %d", set, err)
	wantNumber(t, "Format", opening.Format(l, small(), [8]byte{}), api.OK)
	fatalUnless(t, slices.Equal(names, was) && slices.Equal(b, bytesWere), "the drive's own became %q, %v", names, b)
	clear(b)
	fatalUnless(t, set.Store == [8]byte{'A'}, "the set became %v", set)
}

// greedy is a drive that keeps what it is handed and overwrites it, and all that it told, whenever it is called.
type greedy struct {
	spy
	keptBytes [][]byte
	keptNames [][]string
}

func (g *greedy) spoil() {
	for _, b := range g.keptBytes {
		b = b[:cap(b)]
		for i := range b {
			b[i] = 'Z'
		}
	}
	for _, l := range g.keptNames {
		l = l[:cap(l)]
		for i := range l {
			l[i] = "Z"
		}
	}
}

func (g *greedy) Append(name string, data []byte) api.Errno {
	err := g.spy.Append(name, data)
	g.keptBytes = append(g.keptBytes, data)
	g.spoil()
	return err
}

func (g *greedy) Remove(name string) api.Errno {
	g.spoil()
	return g.spy.Remove(name)
}

func (g *greedy) Read(name string) ([]byte, api.Errno) {
	b, err := g.spy.Read(name)
	b = slices.Clone(b)
	g.keptBytes = append(g.keptBytes, b)
	return b, err
}

func (g *greedy) List() ([]string, api.Errno) {
	l, err := g.spy.List()
	l = slices.Clone(l)
	g.keptNames = append(g.keptNames, l)
	return l, err
}

func (g *greedy) Struck() bool {
	g.spoil()
	return g.spy.Struck()
}

// P18.8: drives that overwrite all that they were handed and told change nothing of what is done and answered.
func TestGreedyDrives(t *testing.T) {
	anew := func(i int) spy {
		return spy{names: []string{"z", "t", "l", "a"}, bytes: form(at('A', i, 5).Label)}
	}
	greedyOnes := func() []subject {
		var l []subject
		for i := range 3 {
			l = append(l, &greedy{spy: anew(i)})
		}
		return l
	}
	wantNumber(t, "Open", checkOpen(t, greedyOnes), api.OK)
	wantNumber(t, "Format", checkFormat(t, greedyOnes, small(), [8]byte{1}), api.OK)
	plain, g := spies(3, func(i int) *spy { s := anew(i); return &s })(), greedyOnes()
	for _, l := range [][]subject{plain, g} {
		opening.Format(disksOf(l), small(), [8]byte{1})
		opening.Open(disksOf(l))
	}
	wantCharts(t, "Format and Open", g, plain)
}

// meddler is a drive that reaches the caller's list and turns it when it is asked for its label.
type meddler struct {
	spy
	lock *sync.Mutex
	list []api.Disk
	with api.Disk
}

func (m *meddler) Read(name string) ([]byte, api.Errno) {
	m.lock.Lock()
	defer m.lock.Unlock()
	for i := range m.list {
		m.list[i] = m.with
	}
	return m.spy.Read(name)
}

// The rounds are ones of the drives that were handed in, and so is the set: a drive that turns the caller's list turns neither.
func TestDrivesTurnTheList(t *testing.T) {
	for _, with := range []api.Disk{nil, drive.New(1)} {
		var lock sync.Mutex
		list := make([]api.Disk, 4)
		for i := range 3 {
			list[i] = &meddler{spy: spy{bytes: form(at('A', i, 5).Label)}, lock: &lock, list: list, with: with}
		}
		was := slices.Clone(list)
		set, err := opening.Open(list)
		fatalUnless(t, err == api.OK && slices.Equal(set.Disks, was[:3]), "Open = %v, %d, not %v", set, err, was)
		for i := range 3 {
			fatalUnless(t, was[i].(*meddler).rounds == 2, "the drive %d was in %d rounds", i, was[i].(*meddler).rounds)
		}
	}
}

// Nothing beside an error.
func TestNothingBesideAnError(t *testing.T) {
	for _, marks := range [][]api.Mark{{at('A', 0, 5)}, {at('A', 0, 5), at('A', 1, 5), at('B', 0, 5), at('B', 1, 5)}, {at('A', 0, 5), at('A', 1, 5), {}}, make([]api.Mark, 256)} {
		l, err := opening.Arrange(marks)
		fatalUnless(t, err != api.OK && sameLayout(l, api.Layout{}), "Arrange = %v, %d", l, err)
	}
}

// Rounds go beside one another: a drive's job may wait for that of another one.
func TestDrivesAreAskedBesideOneAnother(t *testing.T) {
	const n = 20
	shape := api.Shape{K: 10, M: 10, Block: 4}
	disks := make([]api.Disk, n)
	gate := newGate(n)
	for i := range disks {
		disks[i] = &waiter{spy: spy{bytes: form(api.Label{Shape: shape, Index: i})}, gate: gate}
	}
	ended := make(chan api.Errno, 2)
	go func() {
		ended <- opening.Format(disks, shape, [8]byte{})
		_, err := opening.Open(disks)
		ended <- err
	}()
	for range 2 {
		select {
		case err := <-ended:
			wantNumber(t, "Format and Open", err, api.OK)
		case <-time.After(30 * time.Second):
			t.Fatal("the drives are asked one behind the other")
		}
	}
}

// gate lets through when as many as it is for have come, again and again.
type gate struct {
	lock  sync.Mutex
	n, at int
	open  chan struct{}
}

func newGate(n int) *gate { return &gate{n: n, open: make(chan struct{})} }

func (g *gate) wait() {
	g.lock.Lock()
	open := g.open
	g.at++
	if g.at == g.n {
		g.at, g.open = 0, make(chan struct{})
		close(open)
	}
	g.lock.Unlock()
	<-open
}

// waiter is a drive whose SyncDir and Read wait for those of all others.
type waiter struct {
	spy
	gate *gate
}

func (w *waiter) SyncDir() api.Errno {
	w.gate.wait()
	return w.spy.SyncDir()
}

func (w *waiter) Read(name string) ([]byte, api.Errno) {
	w.gate.wait()
	return w.spy.Read(name)
}

// All goroutines have ended when a call answers, or have nothing left to do but to end.
func TestGoroutinesEnd(t *testing.T) {
	before := runtime.NumGoroutine()
	for range 100 {
		w := formatted(t, small(), 'A', 100)
		wantOpen(t, w, []int{2, 0, 1}, []int{0, 1, 2}, 1)
		wantNoSet(t, listOf(w, 2, -1, -1), api.ErrQuorum)
		w[1].Fuse(1, 2, 0)
		wantNoSet(t, listOf(w, 0, 1, 2), api.ErrDown)
	}
	for begin := time.Now(); runtime.NumGoroutine() > before; {
		fatalUnless(t, time.Since(begin) < 30*time.Second, "%d goroutines are left, of %d", runtime.NumGoroutine(), before)
		time.Sleep(time.Millisecond)
	}
}

// someCalls are calls of all three, and all that they answered and did.
func someCalls(seed int64) string {
	r := source(seed)
	var text strings.Builder
	w := ward(4, 200)
	for range 40 {
		l, err := opening.Arrange(someMarks(r, r.Intn(9), small()))
		fmt.Fprintln(&text, l, err)
		w[r.Intn(4)].Arm([]api.Fault{{At: r.Intn(12), Kind: api.FaultIO}})
		if r.Intn(4) == 0 {
			fmt.Fprintln(&text, opening.Format(listOf(w, r.Perm(4)...), api.Shape{K: 2, M: 2, Block: 4}, [8]byte{byte(r.Intn(3))}))
		}
		order := r.Perm(4)
		set, err := opening.Open(listOf(w, order[r.Intn(3):]...))
		fmt.Fprintln(&text, err)
		if set != nil {
			for _, d := range set.Disks {
				x, _ := d.(*wound.Wound)
				fmt.Fprintln(&text, slices.Index(w, x), set.Last)
			}
		}
		for _, x := range w {
			fmt.Fprintln(&text, x.Calls(), x.Image(), x.Safe())
		}
	}
	return text.String()
}

// Nothing is kept from call to call: stores that are opened beside one another come out as each by itself.
func TestStoresBesideOneAnother(t *testing.T) {
	const many = 20
	var alone, beside [many]string
	for i := range many {
		alone[i] = someCalls(int64(i))
	}
	var group sync.WaitGroup
	for i := range many {
		group.Go(func() { beside[i] = someCalls(int64(i)) })
	}
	group.Wait()
	fatalUnless(t, alone == beside, "stores hang on one another")
}

// W0: calls of much end, and in a short time: drives with many names, a great label's file, and as many drives as there may be.
func TestMuchEnds(t *testing.T) {
	begin := time.Now()
	var files []api.File
	for i := range 200000 {
		files = append(files, api.File{Name: fmt.Sprintf("o%06x", i)})
	}
	w := ward(3, 1000)
	w[1] = wound.New(drive.Load(1000, files))
	w[2] = wound.New(drive.Load(1<<28, []api.File{{Name: "l", Data: make([]byte, 1<<26)}}))
	wantNumber(t, "Format", opening.Format(listOf(w, 0, 1, 2), small(), [8]byte{'A'}), api.OK)
	wantOpen(t, w, []int{0, 2, 1}, []int{0, 1, 2}, 1)
	w[2].Append("l", make([]byte, 1<<26))
	wantOpen(t, w, []int{0, 2, 1}, []int{0, 1, 2}, 2)

	var marks []api.Mark
	for i := range 255 {
		marks = append(marks, with(at('A', 0, i), func(l *api.Label) { l.Shape = api.Shape{K: 128, M: 127, Block: 1 + i} }))
	}
	for range 100 {
		l, err := opening.Arrange(marks)
		fatalUnless(t, err == api.ErrQuorum, "Arrange = %v, %d", l, err)
	}
	for range 100 {
		l, err := opening.Arrange(make([]api.Mark, 1<<22))
		fatalUnless(t, err == api.ErrArg, "Arrange = %v, %d", l, err)
	}
	wantNoSet(t, make([]api.Disk, 1<<22), api.ErrArg)
	wantNumber(t, "Format", opening.Format(make([]api.Disk, 1<<22), small(), [8]byte{}), api.ErrArg)
	fatalUnless(t, time.Since(begin) < 60*time.Second, "it took %v", time.Since(begin))
}

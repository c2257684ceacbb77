package opening_test

import (
	"bytes"
	"fmt"
	"math/rand"
	"slices"
	"testing"

	"cairn/api"
	"cairn/drive"
	"cairn/label"
	"cairn/opening"
	"cairn/wound"
)

// litter is a drive of that room with whatever stood on it before.
func litter(r *rand.Rand, room int) *drive.Drive {
	var files []api.File
	for _, name := range []string{"l", "t", "o61", "o6162", "a", "zzz", "\xff"} {
		if r.Intn(2) == 0 {
			files = append(files, api.File{Name: name, Data: make([]byte, r.Intn(50))})
		}
	}
	d := drive.Load(room, files)
	if r.Intn(2) == 0 {
		d.Create("b")
		d.Remove("a")
		d.Rename("o61", "t")
	}
	return d
}

// P18.5: behind a Format each drive holds its label alone, safe, whatever stood there; Open in any order has each at its place.
func TestFormatThenOpen(t *testing.T) {
	r := source(183)
	for _, shape := range []api.Shape{{K: 1, M: 1, Block: 1}, {K: 2, M: 1, Block: 4}, {K: 2, M: 2, Block: 65536}, {K: 3, M: 1, Block: 9}, {K: 3, M: 2, Block: 9}} {
		n := shape.K + shape.M
		for _, order := range orders(n) {
			w := make([]*wound.Wound, n)
			for i := range w {
				w[i] = wound.New(litter(r, pick(r, 62, 63, 1000)))
			}
			store := [8]byte{byte(r.Intn(256)), 7: byte(r.Intn(256))}
			wantNumber(t, "Format", opening.Format(listOf(w, upTo(n)...), shape, store), api.OK)
			for i, x := range w {
				want := fmt.Sprint([]api.File{{Name: "l", Data: form(api.Label{Store: store, Shape: shape, Index: i})}})
				fatalUnless(t, fmt.Sprint(x.Image()) == want && fmt.Sprint(x.Safe()) == want && x.Pending() == 0, "the drive %d holds %v, safe %v, not %s", i, x.Image(), x.Safe(), want)
				if r.Intn(2) == 0 {
					x.Crash(api.Fate{})
				}
			}
			set := wantOpen(t, w, order, upTo(n), 1)
			fatalUnless(t, set.Shape == shape && set.Store == store, "Open = %v", set)
		}
	}
}

// P18.5: the same of great shapes, in some orders.
func TestGreatStores(t *testing.T) {
	r := source(184)
	for _, shape := range []api.Shape{{K: 254, M: 1, Block: 1}, {K: 128, M: 127, Block: 65536}, {K: 200, M: 50, Block: 2}, {K: 10, M: 10, Block: 2}} {
		n := shape.K + shape.M
		w := formatted(t, shape, 'Q', 62)
		for epoch := 1; epoch < 6; epoch++ {
			wantOpen(t, w, r.Perm(n), upTo(n), epoch)
		}
		order, places := r.Perm(n), upTo(n)
		for _, i := range order[:shape.M] {
			places[i] = -1
		}
		wantOpen(t, w, order[shape.M:], places, 6)
		wantNoSet(t, listOf(w, order[shape.M+1:]...), api.ErrQuorum)
	}
}

// witness is a drive of the world: its label was formatted for its number; it notes what it was asked and answered.
type witness struct {
	*wound.Wound
	showed bool // its label, to the last Open
}

func (w *witness) Read(name string) ([]byte, api.Errno) {
	b, err := w.Wound.Read(name)
	if _, no := label.Parse(b); name == "l" && err == api.OK && no == api.OK {
		w.showed = true
	}
	return b, err
}

// world is the drives of a Format that answered OK, to which all happens that P18.6 allows.
type world struct {
	shape api.Shape
	w     []*witness
	well  []success
	seen  map[string]int
}

// success is an Open that answered OK: its epoch, and the drives that went through to the end.
type success struct {
	epoch   int
	through []int
}

func newWorld(t *testing.T, shape api.Shape, room int) *world {
	t.Helper()
	x := &world{shape: shape, seen: map[string]int{}}
	var disks []api.Disk
	for range shape.K + shape.M {
		w := &witness{Wound: wound.New(drive.New(room))}
		x.w = append(x.w, w)
		disks = append(disks, w)
	}
	wantNumber(t, "Format", opening.Format(disks, shape, [8]byte{'W'}), api.OK)
	return x
}

// open opens drives of the world, and holds the epoch against P18.6.
func (x *world) open(t *testing.T, numbers ...int) (*api.Set, api.Errno) {
	t.Helper()
	var disks []api.Disk
	for _, w := range x.w {
		w.showed = false
	}
	for _, i := range numbers {
		disks = append(disks, x.w[i])
	}
	set, err := opening.Open(disks)
	x.seen[fmt.Sprint("Open ", int(err))]++
	if err != api.OK {
		fatalUnless(t, set == nil, "Open = %v, %d", set, err)
		return nil, err
	}
	for _, s := range x.well {
		must := x.shape.M < x.shape.K
		for _, i := range s.through {
			must = must || x.w[i].showed
		}
		fatalUnless(t, !must || set.Last.Epoch > s.epoch, "the epoch %d, behind the epoch %d", set.Last.Epoch, s.epoch)
		if !must {
			x.seen["apart"]++
		}
	}
	fatalUnless(t, set.Last.Count == 0 && set.Shape == x.shape && set.Store == [8]byte{'W'}, "Open = %v", set)
	x.well = append(x.well, success{set.Last.Epoch, x.through(t, numbers, set)})
	return set, err
}

// through are the drives whose label of the new epoch is safe, and of the file that is being written there none is left there.
func (x *world) through(t *testing.T, numbers []int, set *api.Set) []int {
	t.Helper()
	var l []int
	for _, i := range numbers {
		want := form(api.Label{Store: [8]byte{'W'}, Shape: x.shape, Index: i, Epoch: set.Last.Epoch})
		safe := x.w[i].Safe()
		if len(safe) > 0 && safe[0].Name == "l" && bytes.Equal(safe[0].Data, want) && x.w[i].Pending() == 0 {
			l = append(l, i)
			fatalUnless(t, len(x.w[i].Image()) == 1, "the drive %d holds %v", i, x.w[i].Image())
		}
	}
	fatalUnless(t, len(l) >= x.shape.K, "only %v went through to the end", l)
	for place, d := range set.Disks {
		if d != nil {
			fatalUnless(t, d == api.Disk(x.w[place]), "at the place %d stands another one", place)
		}
	}
	return l
}

// lose is a loss of power, and its return.
func (x *world) lose(fate func() api.Fate) {
	for _, w := range x.w {
		w.Rest(true)
	}
	for _, w := range x.w {
		w.Crash(fate())
		w.Power(true)
	}
}

// isDown tells whether the power is off somewhere.
func (x *world) isDown() bool {
	return slices.ContainsFunc(x.w, func(w *witness) bool { return !w.On() })
}

// mustOpen is the Open of P18.6 to which nothing happens.
func (x *world) mustOpen(t *testing.T, order []int) {
	t.Helper()
	for _, w := range x.w {
		w.Arm(nil)
		w.Offline(false)
		w.Fuse(-1, 0, 0)
	}
	set, err := x.open(t, order...)
	fatalUnless(t, err == api.OK, "Open = %d of drives to which nothing happens", err)
	for place, w := range x.w {
		fatalUnless(t, set.Disks[place] == api.Disk(w), "the drive that was formatted for the place %d does not stand there", place)
	}
	fatalUnless(t, len(x.well[len(x.well)-1].through) == len(x.w), "not all drives went through")
}

func someFate(r *rand.Rand) api.Fate {
	f := api.Fate{Dirs: make([]bool, r.Intn(6)), Cuts: make([]int, r.Intn(4))}
	for i := range f.Dirs {
		f.Dirs[i] = r.Intn(2) == 0
	}
	for i := range f.Cuts {
		f.Cuts[i] = pick(r, 0, 1, 30, 31, 99, -1)
	}
	return f
}

// strike is one of all that P18.6 lets happen to a drive.
func (x *world) strike(r *rand.Rand, w *witness) {
	switch r.Intn(8) {
	case 0, 1, 2:
		w.Arm([]api.Fault{{At: r.Intn(20), Kind: api.FaultIO}, {At: r.Intn(20), Kind: pick(r, api.FaultIO, api.FaultFull)}})
	case 3:
		w.Fuse(r.Intn(4), r.Intn(10), pick(r, 0, 1, 30, 31, 99))
	case 4:
		w.Offline(true)
	default:
		w.Offline(false)
	}
}

// P18.6: long runs of Opens of some of the drives, in any order, refused and broken off anywhere, with losses of power and any fates.
func TestLongRuns(t *testing.T) {
	r := source(185)
	seen := map[string]int{}
	shapes := []api.Shape{{K: 1, M: 1, Block: 1}, {K: 2, M: 1, Block: 4}, {K: 2, M: 2, Block: 4}, {K: 3, M: 2, Block: 4}, {K: 4, M: 1, Block: 4}, {K: 3, M: 3, Block: 4}}
	for run := range 1200 {
		shape := shapes[run%len(shapes)]
		x := newWorld(t, shape, pick(r, 62, 63, 200))
		n := len(x.w)
		for range 40 {
			for range r.Intn(3) {
				x.strike(r, x.w[r.Intn(n)])
			}
			order := r.Perm(n)
			x.open(t, order[:pick(r, n, n, shape.K, r.Intn(n+1))]...)
			if x.isDown() || r.Intn(10) == 0 {
				x.lose(func() api.Fate { return someFate(r) })
			}
			if r.Intn(8) == 0 {
				x.mustOpen(t, r.Perm(n))
			}
		}
		for what, n := range x.seen {
			seen[what] += n
		}
	}
	for _, what := range []string{"Open 0", "Open 122", "Open 170", "apart"} {
		fatalUnless(t, seen[what] > 500, "%s: %d times of %v", what, seen[what], seen)
	}
}

// fates are all there are for so many changes of names, with some cuts of bytes.
func fates(pending int) []api.Fate {
	var all []api.Fate
	for kept := range 1 << pending {
		dirs := make([]bool, pending)
		for i := range dirs {
			dirs[i] = kept>>i&1 == 1
		}
		for _, cut := range []int{0, 20, 99} {
			all = append(all, api.Fate{Dirs: dirs, Cuts: []int{cut, cut, cut}})
		}
	}
	return all
}

// P18.6: the power goes at each call of each drive in each round of an Open, behind one that was refused at each call of that drive; every fate of that drive.
func TestThePowerGoesAnywhere(t *testing.T) {
	for _, shape := range []api.Shape{{K: 1, M: 1, Block: 1}, small(), {K: 2, M: 2, Block: 4}} {
		n := shape.K + shape.M
		for struck := range n {
			for refused := -1; refused < 8; refused++ { // -1: none; the first Open has eight calls of a drive
				for call := range 9 {
					run := func() *world {
						x := newWorld(t, shape, 62)
						x.w[struck].Arm([]api.Fault{{At: refused, Kind: api.FaultIO}})
						_, err := x.open(t, upTo(n)...)
						fatalUnless(t, err == api.OK || err == api.ErrQuorum, "Open = %d", err)
						x.w[struck].Fuse(min(1, call), max(0, call-1), call*7%32)
						_, err = x.open(t, upTo(n)...)
						fatalUnless(t, err == api.ErrDown || call == 8 && err == api.OK, "Open = %d", err) // only where the first one left a file to sweep there is an eighth call
						return x
					}
					for _, f := range fates(run().w[struck].Pending()) {
						x := run()
						x.lose(func() api.Fate { return f })
						x.mustOpen(t, append(upTo(n)[struck:], upTo(struck)...))
					}
				}
			}
		}
	}
}

// P18.6: where M is K, two halves of a store that never met have epochs of their own; once they meet, the epochs rise again.
func TestHalves(t *testing.T) {
	x := newWorld(t, api.Shape{K: 2, M: 2, Block: 4}, 62)
	for range 3 {
		x.open(t, 0, 1)
	}
	set, err := x.open(t, 3, 2)
	fatalUnless(t, err == api.OK && set.Last.Epoch == 1 && slices.Equal(set.Disks, []api.Disk{nil, nil, x.w[2], x.w[3]}), "Open of the other half = %v, %d", set, err)
	x.mustOpen(t, []int{3, 1, 2, 0})
	fatalUnless(t, x.well[len(x.well)-1].epoch == 4, "the epochs %v", x.well)
}

// someSingles are marks of which no two are blank, and no two of one store name one place with one Epoch.
func someSingles(r *rand.Rand) []api.Mark {
	shape := pick(r, small(), api.Shape{K: 1, M: 1, Block: 1}, api.Shape{K: 3, M: 3, Block: 4}, someShape(r))
	n := min(200, pick(r, shape.K+shape.M, r.Intn(3*(shape.K+shape.M))))
	var marks []api.Mark
	met := map[string]bool{}
	for _, m := range someMarks(r, n, shape) {
		name := fmt.Sprint(m)
		if m.Kind == api.MarkSilent || !met[name] {
			met[name] = true
			marks = append(marks, m)
		}
	}
	return marks
}

// P18.7: marks in another order are arranged to the same marks at the same places; silent ones may be left out.
func TestTheOrderOfMarks(t *testing.T) {
	r := source(186)
	met := map[api.Errno]int{}
	for range 4000 {
		marks := someSingles(r)
		l, err := opening.Arrange(marks)
		met[err]++
		for range 3 {
			order := r.Perm(len(marks)) // where each mark comes to
			turned := make([]api.Mark, len(marks))
			for i, m := range marks {
				turned[order[i]] = m
			}
			wantMapped(t, marks, l, err, turned, order)
		}
		var loud []api.Mark
		var number []int
		for _, m := range marks {
			number = append(number, len(loud))
			if m.Kind != api.MarkSilent {
				loud = append(loud, m)
			}
		}
		wantMapped(t, marks, l, err, loud, number)
	}
	fatalUnless(t, met[api.OK] > 300 && met[api.ErrQuorum] > 300 && met[api.ErrDrives] > 100, "%v", met)
}

// wantMapped wants of other marks the layout of the first ones, whose numbers became these.
func wantMapped(t *testing.T, marks []api.Mark, l api.Layout, err api.Errno, other []api.Mark, number []int) {
	t.Helper()
	want := l
	want.Places = nil
	for _, i := range l.Places {
		if i >= 0 {
			i = number[i]
		}
		want.Places = append(want.Places, i)
	}
	got, e := opening.Arrange(other)
	fatalUnless(t, sameLayout(got, want) && e == err, "Arrange(%v) = %v, %d; Arrange(%v) = %v, %d, not %v", marks, l, err, other, got, e, want)
}

// P18.7: silent marks between others, many of them, up to 255 in all; with more there are too many.
func TestSilentOnesLeftOut(t *testing.T) {
	r := source(187)
	for range 500 {
		marks := someMarks(r, r.Intn(200), small())
		var number []int
		var full []api.Mark
		quiet := 255 - len(marks)
		for _, m := range marks {
			for range r.Intn(1 + min(quiet, 9)) {
				full = append(full, silent())
				quiet--
			}
			number = append(number, len(full))
			full = append(full, m)
		}
		full = append(full, slices.Repeat([]api.Mark{silent()}, quiet)...)
		l, err := opening.Arrange(marks)
		wantMapped(t, marks, l, err, full, number)
		wantNumber(t, "Arrange of one more", checkArrange(t, append(full, silent())), api.ErrArg)
	}
}

// others are the files but for the label and the temporary one.
func others(files []api.File) string {
	return fmt.Sprint(slices.DeleteFunc(files, func(f api.File) bool { return f.Name == "l" || f.Name == "t" }))
}

// P18.9: whatever strikes Open and whatever it answers, no other file is changed; nothing at all where the drive stands nowhere, and where it answers ErrArg, ErrDrives or ErrWorn.
func TestOpenChangesNoOtherFile(t *testing.T) {
	r := source(188)
	met := map[api.Errno]int{}
	nowhere := 0
	for range 8000 {
		var w []subject
		var before, all []string
		for range r.Intn(8) {
			s := someWound(r.Int63())
			w = append(w, s)
			before, all = append(before, ""), append(all, "")
			if s != nil {
				p := s.(patient)
				before[len(w)-1] = others(p.Image())
				all[len(w)-1] = fmt.Sprint(p.Image(), p.Safe(), p.Pending())
			}
		}
		disks := disksOf(w)
		set, err := opening.Open(disks)
		met[err]++
		for i, s := range w {
			if s == nil {
				continue
			}
			p := s.(patient)
			fatalUnless(t, others(p.Image()) == before[i], "Open = %d; the drive %d held %s, and holds %s", err, i, before[i], others(p.Image()))
			away := set != nil && !slices.Contains(set.Disks, disks[i])
			if away {
				nowhere++
			}
			if away || err == api.ErrArg || err == api.ErrDrives || err == api.ErrWorn {
				now := fmt.Sprint(p.Image(), p.Safe(), p.Pending())
				fatalUnless(t, now == all[i], "Open = %d; the drive %d held %s, and holds %s", err, i, all[i], now)
			}
		}
	}
	for _, err := range []api.Errno{api.OK, api.ErrQuorum, api.ErrDrives, api.ErrWorn, api.ErrDown} {
		fatalUnless(t, met[err] > 50 && nowhere > 50, "%d: %d times of %v", err, met[err], met)
	}
}

// P18.9: too many drives: nothing is changed, and none is called.
func TestTooManyDrivesStayAsTheyAre(t *testing.T) {
	w := ward(256, 100)
	for i, x := range w {
		wantNumber(t, "Write", label.Write(x, at('A', i%3, 1).Label), api.OK)
		x.Create("t")
		x.Arm(nil)
	}
	wantNoSet(t, listOf(w, upTo(256)...), api.ErrArg)
	for i, x := range w {
		fatalUnless(t, x.Calls() == 0 && x.Used() == 31 && x.Pending() == 1, "the drive %d was called", i)
	}
	set, err := opening.Open(listOf(w, upTo(255)...))
	fatalUnless(t, err == api.OK && slices.Equal(set.Disks, listOf(w, 0, 1, 2)), "Open = %v, %d", set, err)
}

// W6: whatever bytes drives hold as a label: Open ends with one of its numbers.
func TestAnyBytes(t *testing.T) {
	r := source(189)
	for range 3000 {
		w := formatted(t, small(), 'A', 200)
		for _, x := range w {
			switch r.Intn(4) {
			case 0:
				x.Cut("l", r.Intn(32))
			case 1:
				pattern := make([]byte, 31)
				r.Read(pattern)
				x.Flip("l", r.Intn(31), pattern[:r.Intn(31)])
			case 2:
				x.Append("l", make([]byte, 1+r.Intn(9)))
			}
		}
		blanks := 0
		for _, x := range w {
			if _, err := label.Read(x); err != api.OK {
				blanks++
			}
		}
		_, err := opening.Open(listOf(w, 0, 1, 2))
		want := api.OK
		if blanks > 1 {
			want = api.ErrQuorum
		}
		wantNumber(t, "Open", err, want)
	}
}

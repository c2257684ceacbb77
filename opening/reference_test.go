package opening_test

import (
	"fmt"
	"math/big"
	"math/rand"
	"slices"
	"strings"
	"testing"

	"cairn/api"
	"cairn/drive"
	"cairn/label"
	"cairn/opening"
	"cairn/wound"
)

var (
	_ subject = (*spy)(nil)
	_ subject = patient{}
)

func fatalUnless(t *testing.T, is bool, says string, args ...any) {
	t.Helper()
	if !is {
		t.Fatalf(says, args...)
	}
}

func source(seed int64) *rand.Rand { return rand.New(rand.NewSource(seed)) }

// pick is one of the list.
func pick[E any](r *rand.Rand, l ...E) E { return l[r.Intn(len(l))] }

// small is the shape of the chapter's examples.
func small() api.Shape { return api.Shape{K: 2, M: 1, Block: 4} }

// The marks of the chapter's examples.

func silent() api.Mark { return api.Mark{Kind: 3} }

func blank() api.Mark { return api.Mark{Kind: 2} }

func at(store byte, index, epoch int) api.Mark {
	return api.Mark{Kind: 1, Label: api.Label{Store: [8]byte{store}, Shape: small(), Index: index, Epoch: epoch}}
}

// with is a mark whose label is changed.
func with(m api.Mark, change func(l *api.Label)) api.Mark {
	change(&m.Label)
	return m
}

// What may be, in the words of the page and of chapters 15 and 18, reckoned without bounds.

func whole(n int) *big.Int { return big.NewInt(int64(n)) }

func from(least, n, greatest *big.Int) bool { return least.Cmp(n) <= 0 && n.Cmp(greatest) <= 0 }

func isShape(s api.Shape) bool {
	n := new(big.Int).Add(whole(s.K), whole(s.M))
	return from(whole(1), whole(s.M), whole(s.K)) && from(n, n, whole(255)) && from(whole(1), whole(s.Block), whole(65536))
}

func isLabel(l api.Label) bool {
	return isShape(l.Shape) && from(whole(0), whole(l.Index), whole(l.Shape.K+l.Shape.M-1)) && from(whole(0), whole(l.Epoch), whole(4294967295))
}

func isMark(m api.Mark) bool { return m.Kind == 2 || m.Kind == 3 || m.Kind == 1 && isLabel(m.Label) }

// wordsOfArrange is P18.1 in its words.
func wordsOfArrange(marks []api.Mark) (api.Layout, api.Errno) {
	if len(marks) > 255 {
		return api.Layout{}, 2
	}
	labels := map[[11]int][]api.Label{} // by store
	for _, m := range marks {
		if !isMark(m) {
			return api.Layout{}, 2
		}
		if m.Kind == 1 {
			name := nameOf(m.Label)
			labels[name] = append(labels[name], m.Label)
		}
	}
	met := map[[11]int]int{} // the epochs of those that are
	greatest := -1
	for name, of := range labels {
		places := map[int]bool{}
		epoch := 0
		for _, l := range of {
			places[l.Index] = true
			epoch = max(epoch, l.Epoch)
		}
		if len(places) >= of[0].Shape.K {
			met[name] = epoch
			greatest = max(greatest, epoch)
		}
	}
	var taken [][11]int
	for name, epoch := range met {
		if epoch == greatest {
			taken = append(taken, name)
		}
	}
	switch len(taken) {
	case 0:
		return api.Layout{}, 170
	case 1:
		first := labels[taken[0]][0]
		return api.Layout{Store: first.Store, Shape: first.Shape, Epoch: greatest, Places: wordsOfPlaces(marks, first)}, 0
	}
	return api.Layout{}, 180
}

// nameOf is all that tells stores apart, number by number.
func nameOf(l api.Label) [11]int {
	name := [11]int{8: l.Shape.K, 9: l.Shape.M, 10: l.Shape.Block}
	for i, b := range l.Store {
		name[i] = int(b)
	}
	return name
}

// wordsOfPlaces are the Places of P18.1, of the store that has this label.
func wordsOfPlaces(marks []api.Mark, of api.Label) []int {
	var places, blanks []int
	for i, m := range marks {
		if m.Kind == 2 {
			blanks = append(blanks, i)
		}
	}
	for place := range of.Shape.K + of.Shape.M {
		stands, epoch := -1, -1
		for i, m := range marks {
			if m.Kind == 1 && nameOf(m.Label) == nameOf(of) && m.Label.Index == place && m.Label.Epoch > epoch {
				stands, epoch = i, m.Label.Epoch
			}
		}
		if stands < 0 && len(blanks) > 0 {
			stands, blanks = blanks[0], blanks[1:]
		}
		places = append(places, stands)
	}
	return places
}

func sameLayout(a, b api.Layout) bool {
	return a.Store == b.Store && a.Shape == b.Shape && a.Epoch == b.Epoch && slices.Equal(a.Places, b.Places)
}

// checkArrange holds Arrange of the marks against the chapter's words. It answers Arrange's number.
func checkArrange(t *testing.T, marks []api.Mark) api.Errno {
	t.Helper()
	l, err := opening.Arrange(marks)
	want, number := wordsOfArrange(marks)
	if !sameLayout(l, want) || err != number {
		t.Fatalf("Arrange(%v) = %v, %d, not %v, %d", marks, l, err, want, number)
	}
	return err
}

// subject is a drive that tells all that became of it.
type subject interface {
	api.Disk
	chart() string
}

// spy is a drive that writes down what it is asked, and answers as it was told to.
type spy struct {
	names  []string          // what List tells, beside whatever number
	bytes  []byte            // what Read of the label tells, likewise
	errs   map[int]api.Errno // of the calls of these numbers; OK of the others
	struck int               // in the round of this number the power goes: 1, 2, ..
	calls  int
	rounds int
	asked  []string
}

func (s *spy) ask(says string, args ...any) api.Errno {
	s.asked = append(s.asked, fmt.Sprintf(says, args...))
	s.calls++
	return s.errs[s.calls-1]
}

func (s *spy) Create(name string) api.Errno              { return s.ask("Create %q", name) }
func (s *spy) Append(name string, data []byte) api.Errno { return s.ask("Append %q %v", name, data) }
func (s *spy) Sync(name string) api.Errno                { return s.ask("Sync %q", name) }
func (s *spy) Rename(old, to string) api.Errno           { return s.ask("Rename %q %q", old, to) }
func (s *spy) Remove(name string) api.Errno              { return s.ask("Remove %q", name) }
func (s *spy) SyncDir() api.Errno                        { return s.ask("SyncDir") }
func (s *spy) List() ([]string, api.Errno)               { return s.names, s.ask("List") }

func (s *spy) Read(name string) ([]byte, api.Errno) {
	if name != "l" {
		return nil, s.ask("Read %q", name)
	}
	return s.bytes, s.ask("Read %q", name)
}

func (s *spy) Struck() bool {
	s.rounds++
	s.asked = append(s.asked, "Struck")
	return s.rounds == s.struck
}

func (s *spy) Rest(off bool) { s.asked = append(s.asked, fmt.Sprint("Rest ", off)) }

func (s *spy) chart() string { return strings.Join(s.asked, "; ") }

// patient is a wound, of which all can be told.
type patient struct{ *wound.Wound }

func (p patient) chart() string {
	return fmt.Sprint(p.Image(), p.Safe(), p.Pending(), p.Used(), p.Calls(), p.Struck(), p.On())
}

// form is the bytes of a label that may be.
func form(l api.Label) []byte {
	b, err := label.Encode(l)
	if err != 0 {
		panic(fmt.Sprint("no label: ", l))
	}
	return b
}

// The rounds of P18.2 and P18.3 in their words: the jobs one behind the other, the last drive first.

func round(disks []subject, job func(i int, d api.Disk) api.Errno) []api.Errno {
	answers := make([]api.Errno, len(disks))
	off := false
	for i, d := range slices.Backward(disks) {
		answers[i] = -7
		if d != nil {
			answers[i] = job(i, d)
		}
	}
	for _, d := range disks {
		if d != nil && d.Struck() {
			off = true
		}
	}
	for _, d := range disks {
		if d != nil {
			d.Rest(off)
		}
	}
	return answers
}

// firstRefused makes the calls up to the first that is not answered OK.
func firstRefused(calls ...func() api.Errno) api.Errno {
	for _, call := range calls {
		if err := call(); err != 0 {
			return err
		}
	}
	return 0
}

func writeByHand(d api.Disk, l api.Label) api.Errno {
	return firstRefused(
		func() api.Errno { return d.Create("t") },
		func() api.Errno { return d.Append("t", form(l)) },
		func() api.Errno { return d.Sync("t") },
		func() api.Errno { return d.Rename("t", "l") },
		d.SyncDir,
	)
}

func formatByHand(disks []subject, shape api.Shape, store [8]byte) api.Errno {
	if !isShape(shape) {
		return 4
	}
	if len(disks) != shape.K+shape.M {
		return 2
	}
	for _, d := range disks {
		if d == nil {
			return 2
		}
	}
	answers := round(disks, func(i int, d api.Disk) api.Errno {
		names, err := d.List()
		if err != 0 {
			return err
		}
		told := map[string]bool{}
		for _, name := range names {
			told[name] = true
		}
		var calls []func() api.Errno
		if told["l"] {
			calls = append(calls, func() api.Errno { return d.Remove("l") })
			delete(told, "l")
		}
		for len(told) > 0 {
			least := ""
			first := true
			for name := range told {
				if first || name < least {
					least, first = name, false
				}
			}
			delete(told, least)
			calls = append(calls, func() api.Errno { return d.Remove(least) })
		}
		calls = append(calls, d.SyncDir, func() api.Errno {
			return writeByHand(d, api.Label{Store: store, Shape: shape, Index: i})
		})
		return firstRefused(calls...)
	})
	worst := api.OK
	for _, err := range answers {
		if err == 122 {
			return 122
		}
		if err != 0 {
			worst = 230
		}
	}
	return worst
}

// opened is what Open answers beside its number: of each place the number of its drive in the list, -1: none.
type opened struct {
	is     bool
	places []int
	shape  api.Shape
	store  [8]byte
	last   api.Gen
}

func openByHand(disks []subject) (opened, api.Errno) {
	if len(disks) > 255 {
		return opened{}, 2
	}
	marks := make([]api.Mark, len(disks))
	down := false
	for i := range marks {
		marks[i] = silent()
	}
	round(disks, func(i int, d api.Disk) api.Errno {
		b, err := d.Read("l")
		l, no := label.Parse(b)
		switch {
		case err == 0 && no == 0:
			marks[i] = api.Mark{Kind: 1, Label: l}
		case err == 0 || err == 110 || err == 150:
			marks[i] = blank()
		case err == 122:
			down = true
		}
		return 0
	})
	if down {
		return opened{}, 122
	}
	l, err := wordsOfArrange(marks)
	if err != 0 {
		return opened{}, err
	}
	if l.Epoch == 4294967295 {
		return opened{}, 181
	}
	well := 0
	round(disks, func(i int, d api.Disk) api.Errno {
		for place, number := range l.Places {
			if number == i {
				err := beginByHand(d, api.Label{Store: l.Store, Shape: l.Shape, Index: place, Epoch: l.Epoch + 1})
				down = down || err == 122
				if err == 0 {
					well++
				}
			}
		}
		return 0
	})
	switch {
	case down:
		return opened{}, 122
	case well < l.Shape.K:
		return opened{}, 170
	}
	return opened{true, l.Places, l.Shape, l.Store, api.Gen{Epoch: l.Epoch + 1}}, 0
}

// beginByHand is layer 13's Sweep and layer 15's Write.
func beginByHand(d api.Disk, l api.Label) api.Errno {
	names, err := d.List()
	if err != 0 {
		return err
	}
	if slices.Contains(names, "t") {
		if err := d.Remove("t"); err != 0 {
			return err
		}
	}
	return firstRefused(d.SyncDir, func() api.Errno { return writeByHand(d, l) })
}

// disksOf are the subjects as a caller hands them in.
func disksOf(l []subject) []api.Disk {
	disks := make([]api.Disk, len(l))
	for i, s := range l {
		if s != nil {
			disks[i] = s
		}
	}
	return disks
}

// openedOf is what Open answered, in the words of numbers.
func openedOf(t *testing.T, set *api.Set, disks []api.Disk) opened {
	t.Helper()
	if set == nil {
		return opened{}
	}
	o := opened{is: true, shape: set.Shape, store: set.Store, last: set.Last}
	for place, d := range set.Disks {
		i := -1
		if d != nil {
			i = slices.Index(disks, d)
			fatalUnless(t, i >= 0, "at the place %d stands a drive that was not handed in", place)
		}
		o.places = append(o.places, i)
	}
	return o
}

// checkOpen holds Open of some drives against the chapter's words on drives that are like them: anew makes them. It answers Open's number.
func checkOpen(t *testing.T, anew func() []subject) api.Errno {
	t.Helper()
	mine, theirs := anew(), anew()
	want, number := openByHand(theirs)
	disks := disksOf(mine)
	set, err := opening.Open(disks)
	got := openedOf(t, set, disks)
	if fmt.Sprint(got, err) != fmt.Sprint(want, number) {
		t.Fatalf("Open = %v, %d, not %v, %d; the drives, when all was over: %s", got, err, want, number, charts(theirs))
	}
	wantCharts(t, "Open", mine, theirs)
	return err
}

// checkFormat is the like of Format.
func checkFormat(t *testing.T, anew func() []subject, shape api.Shape, store [8]byte) api.Errno {
	t.Helper()
	mine, theirs := anew(), anew()
	want := formatByHand(theirs, shape, store)
	err := opening.Format(disksOf(mine), shape, store)
	if err != want {
		t.Fatalf("Format(%v, %v) = %d, not %d; the drives, when all was over: %s", shape, store, err, want, charts(theirs))
	}
	wantCharts(t, "Format", mine, theirs)
	return err
}

func wantCharts(t *testing.T, says string, mine, theirs []subject) {
	t.Helper()
	for i, s := range mine {
		if s != nil && s.chart() != theirs[i].chart() {
			t.Fatalf("%s: the drive %d comes to\n%s\nnot\n%s", says, i, s.chart(), theirs[i].chart())
		}
	}
}

func charts(l []subject) string {
	var text []string
	for _, s := range l {
		if s == nil {
			text = append(text, "none")
		} else {
			text = append(text, s.chart())
		}
	}
	return strings.Join(text, "\n")
}

// ward is so many wounds over empty drives of that room.
func ward(n, room int) []*wound.Wound {
	var l []*wound.Wound
	for range n {
		l = append(l, wound.New(drive.New(room)))
	}
	return l
}

// listOf are wounds as a caller hands them in, in the order of the numbers; -1: none.
func listOf(w []*wound.Wound, numbers ...int) []api.Disk {
	var disks []api.Disk
	for _, i := range numbers {
		if i < 0 {
			disks = append(disks, nil)
		} else {
			disks = append(disks, w[i])
		}
	}
	return disks
}

// upTo are the numbers below n, rising.
func upTo(n int) []int {
	l := []int{}
	for i := range n {
		l = append(l, i)
	}
	return l
}

// orders are all orders of the numbers below n.
func orders(n int) [][]int {
	if n == 0 {
		return [][]int{{}}
	}
	var all [][]int
	for _, l := range orders(n - 1) {
		for i := range n {
			all = append(all, slices.Insert(slices.Clone(l), i, n-1))
		}
	}
	return all
}

// formatted are wounds that were formatted, whose calls are counted from then on.
func formatted(t *testing.T, shape api.Shape, store byte, room int) []*wound.Wound {
	t.Helper()
	w := ward(shape.K+shape.M, room)
	wantNumber(t, "Format", opening.Format(listOf(w, upTo(len(w))...), shape, [8]byte{store}), api.OK)
	for _, x := range w {
		x.Arm(nil)
	}
	return w
}

func wantNumber(t *testing.T, says string, got, want api.Errno) {
	t.Helper()
	fatalUnless(t, got == want, "%s = %d, not %d", says, got, want)
}

// wantOpen opens the wounds in this order (-1: none), and wants each at its place: there stands the wound of the number that is given for it.
func wantOpen(t *testing.T, w []*wound.Wound, numbers, places []int, epoch int) *api.Set {
	t.Helper()
	set, err := opening.Open(listOf(w, numbers...))
	fatalUnless(t, err == api.OK && set != nil, "Open of %v = %v, %d", numbers, set, err)
	want := listOf(w, places...)
	fatalUnless(t, slices.Equal(set.Disks, want) && set.Last == api.Gen{Epoch: epoch}, "Open of %v: at the places %v, not %v; %v, not epoch %d", numbers, set.Disks, want, set.Last, epoch)
	return set
}

// wantNoSet wants this number, and nothing beside it.
func wantNoSet(t *testing.T, disks []api.Disk, want api.Errno) {
	t.Helper()
	set, err := opening.Open(disks)
	fatalUnless(t, set == nil && err == want, "Open = %v, %d, not %d", set, err, want)
}

// labelOn is the label that stands on a wound's drive, whatever its calls answer.
func labelOn(t *testing.T, w *wound.Wound) api.Label {
	t.Helper()
	l, err := label.Read(w.Drive)
	fatalUnless(t, err == api.OK, "the drive shows no label: %d; it holds %v", err, w.Image())
	return l
}

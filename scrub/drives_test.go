package scrub_test

import (
	"fmt"
	"maps"
	"slices"
	"strings"
	"testing"

	"cairn/api"
	"cairn/bay"
	"cairn/drive"
	"cairn/frame"
	"cairn/opening"
	"cairn/scrub"
	"cairn/stripe"
	"cairn/wound"
)

var (
	_ subject = (*spy)(nil)
	_ subject = patient{}
)

// subject is a drive that tells what it was asked, or came to, since it was asked so last.
type subject interface {
	api.Disk
	news() string
}

// fate says what a call of a drive in a round, 0, 1, .., is answered, beside what it tells; false: it is done.
type fate func(round int, call string) (api.Errno, bool)

// spy is a drive that writes down what it is asked.
type spy struct {
	files  map[string][]byte
	told   []string // what List tells, if it isn't the files' names
	fate   fate
	struck func(round int) bool // does the power go in this round?
	over   func(round int)      // is told when a round is over
	off    bool
	rounds int
	asked  []string
}

// ask writes a call down, and tells its number.
func (s *spy) ask(says string, args ...any) api.Errno {
	text := fmt.Sprintf(says, args...)
	s.asked = append(s.asked, text)
	if s.off {
		return 122
	}
	if s.fate != nil {
		if err, is := s.fate(s.rounds, text); is {
			return err
		}
	}
	return 0
}

func (s *spy) Create(name string) api.Errno              { return s.ask("Create %q", name) }
func (s *spy) Append(name string, data []byte) api.Errno { return s.ask("Append %q %x", name, data) }
func (s *spy) Sync(name string) api.Errno                { return s.ask("Sync %q", name) }
func (s *spy) Rename(old, to string) api.Errno           { return s.ask("Rename %q %q", old, to) }
func (s *spy) Remove(name string) api.Errno              { return s.ask("Remove %q", name) }
func (s *spy) SyncDir() api.Errno                        { return s.ask("SyncDir") }

// List tells the names in no order, beside whatever number.
func (s *spy) List() ([]string, api.Errno) {
	err := s.ask("List")
	if s.told != nil {
		return s.told, err
	}
	return slices.Collect(maps.Keys(s.files)), err
}

// Read tells the bytes beside whatever number.
func (s *spy) Read(name string) ([]byte, api.Errno) {
	err := s.ask("Read %q", name)
	b, is := s.files[name]
	if !is && err == 0 {
		return nil, 110
	}
	return b, err
}

func (s *spy) Struck() bool {
	s.asked = append(s.asked, "Struck")
	return s.struck != nil && s.struck(s.rounds)
}

func (s *spy) Rest(off bool) {
	s.asked = append(s.asked, fmt.Sprint("Rest ", off))
	s.off = s.off || off
	s.rounds++
	if s.over != nil {
		s.over(s.rounds - 1)
	}
}

func (s *spy) news() string {
	text := strings.Join(s.asked, "; ")
	s.asked = nil
	return text
}

// lay lays a file onto the drive.
func (s *spy) lay(name string, b []byte) *spy {
	if s.files == nil {
		s.files = map[string][]byte{}
	}
	s.files[name] = b
	return s
}

// refuse makes all calls that begin so be answered with this number.
func (s *spy) refuse(err api.Errno, begins string) *spy {
	before := s.fate
	s.fate = func(round int, call string) (api.Errno, bool) {
		if strings.HasPrefix(call, begins) {
			return err, true
		}
		if before != nil {
			return before(round, call)
		}
		return 0, false
	}
	return s
}

// What a drive is asked in a step that looks at these keys.
func asks(keys ...string) string {
	text := "List; Struck; Rest false"
	for _, key := range keys {
		text += fmt.Sprintf("; Read %q; Struck; Rest false", nameOf(key))
	}
	return text
}

// patient is a wound, of which all can be told.
type patient struct{ *wound.Wound }

func (p patient) news() string {
	return p.chart() + fmt.Sprint(p.Calls(), p.Struck(), p.On())
}

// chart is all that no mere asking changes.
func (p patient) chart() string {
	var b strings.Builder
	for _, files := range [][]api.File{p.Image(), p.Safe()} {
		for _, f := range files {
			fmt.Fprintf(&b, "%q %q; ", f.Name, f.Data)
		}
		b.WriteString("| ")
	}
	return b.String() + fmt.Sprint(p.Pending(), p.Used(), " ")
}

// small is the shape of the chapter's examples.
func small() api.Shape { return api.Shape{K: 2, M: 1, Block: 4} }

// shapes are such as have few drives.
func shapes() []api.Shape {
	return []api.Shape{{K: 1, M: 1, Block: 1}, small(), {K: 2, M: 2, Block: 3}, {K: 3, M: 1, Block: 2}, {K: 3, M: 2, Block: 4}}
}

// theStore is the name of the store that the tests play with.
func theStore() [8]byte { return [8]byte{7, 7: 9} }

// nameOf is the name of a key's file.
func nameOf(key string) string { return fmt.Sprintf("o%x", key) }

// gen is a generation of the store's first opening.
func gen(count int) api.Gen { return api.Gen{Epoch: 1, Count: count} }

// shardsOf are the shards of an object of the store.
func shardsOf(shape api.Shape, key, data string, g api.Gen) []api.Shard {
	l, err := stripe.Split(api.Head{Store: theStore(), Shape: shape, Key: key, Gen: g}, []byte(data))
	if err != 0 {
		panic(fmt.Sprint("no object: ", shape, key, err))
	}
	return l
}

// formOf is the bytes of a shard's file.
func formOf(s api.Shard) []byte {
	b, err := frame.Encode(s)
	if err != 0 {
		panic(fmt.Sprint("no shard: ", s.Head, err))
	}
	return b
}

// setOf is the set of a store over such drives.
func setOf[S subject](shape api.Shape, l []S) *api.Set {
	set := &api.Set{Shape: shape, Store: theStore(), Last: gen(99)}
	for _, s := range l {
		set.Disks = append(set.Disks, s)
	}
	return set
}

// shelves are drives on which these objects stand, each at all places: keys and bytes by turns, of generations 1 1, 1 2, ..
func shelves(shape api.Shape, objects ...string) []*spy {
	l := make([]*spy, shape.K+shape.M)
	for i := range l {
		l[i] = &spy{files: map[string][]byte{}}
	}
	for i := 0; i < len(objects); i += 2 {
		for place, s := range shardsOf(shape, objects[i], objects[i+1], gen(i/2+1)) {
			l[place].lay(nameOf(objects[i]), formOf(s))
		}
	}
	return l
}

// laid is a set of wounds, in which these objects were stored at all places.
func laid(t *testing.T, shape api.Shape, objects ...string) (*api.Set, []patient) {
	t.Helper()
	var w []patient
	for range shape.K + shape.M {
		w = append(w, patient{wound.New(drive.New(1 << 22))})
	}
	for i := 0; i < len(objects); i += 2 {
		for place, s := range shardsOf(shape, objects[i], objects[i+1], gen(i/2+1)) {
			wantNumber(t, "Store", bay.Store(w[place], s), api.OK)
		}
	}
	return setOf(shape, w), w
}

// opened is a store that was formatted and opened, with its drives at their places.
func opened(t *testing.T, shape api.Shape, room int) (*api.Set, []patient) {
	t.Helper()
	var w []patient
	var disks []api.Disk
	for range shape.K + shape.M {
		w = append(w, patient{wound.New(drive.New(room))})
		disks = append(disks, w[len(w)-1])
	}
	wantNumber(t, "Format", opening.Format(disks, shape, theStore()), api.OK)
	set, err := opening.Open(disks)
	wantNumber(t, "Open", err, api.OK)
	return set, w
}

// pair is a walk, and one by hand over drives that are like its own.
type pair[S subject] struct {
	set, copied  *api.Set
	walk         *scrub.Scrub
	hand         *hand
	mine, theirs []S
}

// paired are walks through stores of that shape over drives that anew makes.
func paired[S subject](shape api.Shape, anew func() []S) *pair[S] {
	p := &pair[S]{mine: anew(), theirs: anew()}
	p.set, p.copied = setOf(shape, p.mine), setOf(shape, p.theirs)
	p.walk, p.hand = scrub.New(p.set), &hand{set: p.copied}
	return p
}

// each does something to the drives of both.
func (p *pair[S]) each(do func(set *api.Set, l []S)) {
	do(p.set, p.mine)
	do(p.copied, p.theirs)
}

// step makes a step in both ways, and wants the same of them, of their walks and of their drives.
func (p *pair[S]) step(t *testing.T, done <-chan struct{}, budget int) ([]api.Find, bool, api.Errno) {
	t.Helper()
	wantFinds, wantEnd, want := p.hand.step(done, budget)
	finds, end, err := p.walk.Step(done, budget)
	fatalUnless(t, slices.Equal(finds, wantFinds) && end == wantEnd && err == want, "%v: Step %d = %v, %v, %d, not %v, %v, %d", p.set.Shape, budget, finds, end, err, wantFinds, wantEnd, want)
	fatalUnless(t, p.walk.Place() == p.hand.place && p.walk.Seen() == p.hand.seen, "the walk is at %q, %d, not at %q, %d", p.walk.Place(), p.walk.Seen(), p.hand.place, p.hand.seen)
	for i := range p.mine {
		m, h := p.mine[i].news(), p.theirs[i].news()
		fatalUnless(t, m == h, "Step %d: the drive %d comes to\n%s\nnot\n%s", budget, i, m, h)
	}
	return finds, end, err
}

// number makes a step in both ways, and wants this number; with another one than OK nothing else, and the walk where it was.
func (p *pair[S]) number(t *testing.T, done <-chan struct{}, budget int, want api.Errno) []api.Find {
	t.Helper()
	place, seen := p.walk.Place(), p.walk.Seen()
	finds, end, err := p.step(t, done, budget)
	wantNumber(t, fmt.Sprint("Step ", budget), err, want)
	if want != api.OK {
		fatalUnless(t, len(finds) == 0 && !end, "Step %d = %v, %v, %d", budget, finds, end, err)
		wantAt(t, p.walk, place, seen)
	}
	return finds
}

// wantStep wants a step to find this.
func wantStep(t *testing.T, s *scrub.Scrub, budget int, end bool, want ...api.Find) {
	t.Helper()
	finds, isEnd, err := s.Step(nil, budget)
	fatalUnless(t, slices.Equal(finds, want) && isEnd == end && err == api.OK, "Step %d = %v, %v, %d, not %v, %v", budget, finds, isEnd, err, want, end)
}

// wantAt wants a walk to be there.
func wantAt(t *testing.T, s *scrub.Scrub, place string, seen int) {
	t.Helper()
	fatalUnless(t, s.Place() == place && s.Seen() == seen, "the walk is at %q, %d, not at %q, %d", s.Place(), s.Seen(), place, seen)
}

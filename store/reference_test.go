package store_test

import (
	"encoding/binary"
	"fmt"
	"hash/crc32"
	"maps"
	"math"
	"math/rand"
	"slices"
	"strings"
	"testing"

	"cairn/api"
	"cairn/drive"
	"cairn/drop"
	"cairn/get"
	"cairn/heal"
	"cairn/listing"
	"cairn/opening"
	"cairn/put"
	"cairn/store"
	"cairn/wound"
)

var (
	_ subject = (*spy)(nil)
	_ subject = patient{}
)

func fatalUnless(t *testing.T, is bool, says string, args ...any) {
	t.Helper()
	if !is {
		t.Fatalf(says, args...)
	}
}

func source(seed int64) *rand.Rand { return rand.New(rand.NewSource(seed)) }

// pick is one of the list.
func pick[E any](r *rand.Rand, l ...E) E { return l[r.Intn(len(l))] }

// small is the shape of the chapter's examples.
func small() api.Shape { return api.Shape{K: 2, M: 1, Block: 4} }

// shapes are such as have few drives.
func shapes() []api.Shape {
	return []api.Shape{{K: 1, M: 1, Block: 1}, small(), {K: 2, M: 2, Block: 3}, {K: 3, M: 1, Block: 2}, {K: 3, M: 2, Block: 4}}
}

// theStore is the name of the store that the tests play with.
func theStore() [8]byte { return [8]byte{7, 7: 9} }

// numbers are answers of a drive; the first is OK.
var numbers = []api.Errno{0, 110, 120, 121, 122, 111, 112, 91, 150, 1, 2, 3, 170, 181, 200, 201, 160, 230, 240, 7, -1, math.MaxInt, math.MinInt}

// nameOf is the name of a key's file.
func nameOf(key string) string { return "o" + fmt.Sprintf("%x", key) }

// labelOf is the bytes of a label, after the table of chapter 15.
func labelOf(store [8]byte, shape api.Shape, place, epoch int) []byte {
	b := append([]byte{67, 82, 78, 1}, store[:]...)
	b = append(b, byte(shape.K), byte(shape.M))
	b = binary.LittleEndian.AppendUint32(b, uint32(shape.Block))
	b = append(b, byte(place))
	b = binary.LittleEndian.AppendUint64(b, uint64(epoch))
	return binary.LittleEndian.AppendUint32(b, crc32.Checksum(b, crc32.MakeTable(crc32.Castagnoli)))
}

// subject is a drive that tells all that became of it.
type subject interface {
	api.Disk
	chart() string
}

// spy is a drive that writes down what it is asked, and answers as it was told to.
type spy struct {
	files  map[string][]byte // what stands there
	lies   map[string][]byte // what Read tells of these names, whatever stands there
	errs   map[int]api.Errno // what the calls of these numbers answer, without doing anything
	struck int               // in the round of this number the power goes: 1, 2, ..
	within func(round int)   // is told of each call: in which round, 0, 1, ..
	over   func(round int)   // is told when a round is over: 1, 2, ..
	calls  int
	rounds int
	asked  []string
}

// ask writes a call down; of one that is refused it tells with which number.
func (s *spy) ask(says string, args ...any) (api.Errno, bool) {
	s.asked = append(s.asked, fmt.Sprintf(says, args...))
	s.calls++
	err, told := s.errs[s.calls-1]
	if s.within != nil {
		s.within(s.rounds)
	}
	return err, told
}

func (s *spy) Create(name string) api.Errno {
	err, told := s.ask("Create %q", name)
	if !told {
		s.put(name, nil)
	}
	return err
}

func (s *spy) Append(name string, data []byte) api.Errno {
	err, told := s.ask("Append %q %x", name, data)
	if !told {
		s.put(name, slices.Concat(s.files[name], data))
	}
	return err
}

func (s *spy) Sync(name string) api.Errno {
	err, _ := s.ask("Sync %q", name)
	return err
}

func (s *spy) Rename(old, to string) api.Errno {
	err, told := s.ask("Rename %q %q", old, to)
	if !told {
		s.put(to, s.files[old])
		delete(s.files, old)
	}
	return err
}

func (s *spy) Remove(name string) api.Errno {
	err, told := s.ask("Remove %q", name)
	if told {
		return err
	}
	if _, is := s.files[name]; !is {
		return 110
	}
	delete(s.files, name)
	return 0
}

func (s *spy) SyncDir() api.Errno {
	err, _ := s.ask("SyncDir")
	return err
}

func (s *spy) List() ([]string, api.Errno) {
	err, _ := s.ask("List")
	return slices.Collect(maps.Keys(s.files)), err // in no order
}

func (s *spy) Read(name string) ([]byte, api.Errno) {
	err, told := s.ask("Read %q", name)
	b, is := s.files[name]
	if lie, lies := s.lies[name]; lies {
		b, is = lie, true
	}
	if !is && !told {
		return nil, 110
	}
	return b, err
}

func (s *spy) Struck() bool {
	s.rounds++
	s.asked = append(s.asked, "Struck")
	return s.rounds == s.struck
}

func (s *spy) Rest(off bool) {
	s.asked = append(s.asked, fmt.Sprint("Rest ", off))
	if s.over != nil {
		s.over(s.rounds)
	}
}

func (s *spy) chart() string { return strings.Join(s.asked, "; ") }

// put makes these bytes the file's.
func (s *spy) put(name string, b []byte) *spy {
	if s.files == nil {
		s.files = map[string][]byte{}
	}
	s.files[name] = b
	return s
}

// fail makes the call of this number answer so.
func (s *spy) fail(call int, err api.Errno) *spy {
	if s.errs == nil {
		s.errs = map[int]api.Errno{}
	}
	s.errs[call] = err
	return s
}

// patient is a wound, of which all can be told.
type patient struct{ *wound.Wound }

func (p patient) chart() string {
	return fmt.Sprint(p.Image(), p.Safe(), p.Pending(), p.Used(), p.Calls(), p.Struck(), p.On())
}

// disksOf are the subjects as a caller hands them in.
func disksOf[S subject](l []S) []api.Disk {
	disks := make([]api.Disk, len(l))
	for i, s := range l {
		disks[i] = s
	}
	return disks
}

func charts[S subject](l []S) string {
	var text []string
	for _, s := range l {
		text = append(text, s.chart())
	}
	return strings.Join(text, "\n")
}

// spies are so many empty drives.
func spies(n int) []*spy {
	l := make([]*spy, n)
	for i := range l {
		l[i] = &spy{}
	}
	return l
}

// patients are so many empty drives of that room.
func patients(n, room int) []patient {
	l := make([]patient, n)
	for i := range l {
		l[i] = patient{wound.New(drive.New(room))}
	}
	return l
}

// call is a call of a store, with all that it is handed. Page's Prefix and After, and List's prefix, are the key and after.
type call struct {
	op         string
	key, after string
	data       string
	a, b       int // off and n, or Delim and Limit
}

// operations are the words of the calls that go to the drives; close does not.
var operations = []string{"put", "get", "range", "stat", "delete", "list", "page", "heal"}

func (c call) query() api.Query {
	return api.Query{Prefix: c.key, After: c.after, Delim: c.a, Limit: c.b}
}

// answer is all that a call answers, as a text, but for the error; and of that the number, the word and the key.
type answer struct {
	says    string
	number  api.Errno
	op, key string
}

// saying is an answer without an error, or one whose number has still to be looked at.
func saying(data []byte, gen api.Gen, size int, keys []string, page api.Page, did api.Healed) string {
	return fmt.Sprintf("%q %v %d %q %q %q %q %v %v", data, gen, size, keys, page.Keys, page.Groups, page.Next, page.More, did)
}

// nothing is what a call answers beside an error, but for Heal's that was degraded.
var nothing = saying(nil, api.Gen{}, 0, nil, api.Page{}, api.Healed{})

// numberOf wants an error to be nil or a *Trouble that is there, with a number that is not OK: all of it.
func numberOf(t *testing.T, err error) (api.Errno, string, string) {
	t.Helper()
	if err == nil {
		return api.OK, "", ""
	}
	trouble, is := err.(*store.Trouble)
	fatalUnless(t, is && trouble != nil, "the error is %T %v", err, err)
	fatalUnless(t, trouble.Err != api.OK, "the error is %v", *trouble)
	return trouble.Err, trouble.Op, trouble.Key
}

// ask makes the call of a store.
func ask(t *testing.T, s *store.Store, c call) answer {
	t.Helper()
	var (
		data []byte
		gen  api.Gen
		size int
		keys []string
		page api.Page
		did  api.Healed
		err  error
	)
	switch c.op {
	case "put":
		err = s.Put(c.key, []byte(c.data))
	case "get":
		data, err = s.Get(c.key)
	case "range":
		data, err = s.Range(c.key, c.a, c.b)
	case "stat":
		gen, size, err = s.Stat(c.key)
	case "delete":
		err = s.Delete(c.key)
	case "list":
		keys, err = s.List(c.key)
	case "page":
		page, err = s.Page(c.query())
	case "heal":
		did, err = s.Heal()
	case "close":
		err = s.Close()
	default:
		t.Fatalf("no call: %s", c.op)
	}
	number, op, key := numberOf(t, err)
	return answer{saying(data, gen, size, keys, page, did), number, op, key}
}

// hand is a store by hand: what the chapter says of one, over the layers below.
type hand struct {
	set    *api.Set // nil: it is closed
	done   chan struct{}
	isStop bool
}

// openByHand is layer 18's Open, with its number.
func openByHand(disks []api.Disk) (*hand, api.Errno) {
	set, err := opening.Open(disks)
	if err != 0 {
		return nil, err
	}
	return &hand{set: set, done: make(chan struct{})}, 0
}

// createByHand is layer 18's Format and then its Open, with the first number that is not OK.
func createByHand(disks []api.Disk, shape api.Shape, id [8]byte) (*hand, api.Errno) {
	if err := opening.Format(disks, shape, id); err != 0 {
		return nil, err
	}
	return openByHand(disks)
}

func (h *hand) stop() {
	if h != nil && h.set != nil && !h.isStop {
		h.isStop = true
		close(h.done)
	}
}

// ask makes the call of the layer below.
func (h *hand) ask(c call) answer {
	refused := func(number api.Errno) answer { return answer{nothing, number, c.op, c.troubleKey()} }
	if h == nil {
		return refused(1)
	}
	if h.set == nil {
		return refused(240)
	}
	var (
		data   []byte
		gen    api.Gen
		size   int
		keys   []string
		page   api.Page
		did    api.Healed
		number api.Errno
	)
	switch c.op {
	case "put":
		number = put.Put(h.set, h.done, c.key, []byte(c.data))
	case "get":
		data, _, number = get.Get(h.set, h.done, c.key)
	case "range":
		data, number = get.Range(h.set, h.done, c.key, c.a, c.b)
	case "stat":
		var v api.Verdict
		v, _, number = get.Look(h.set, h.done, c.key)
		if number == 0 {
			number = map[int]api.Errno{api.IsValue: 0, api.IsAbsent: 200, api.IsUnknown: 170}[v.Kind]
			gen, size = v.Gen, v.Size
		}
	case "delete":
		number = drop.Delete(h.set, h.done, c.key)
	case "list":
		keys, number = listing.List(h.set, h.done, c.key)
	case "page":
		page, number = listing.Page(h.set, h.done, c.query())
	case "heal":
		did, number = heal.Heal(h.set, h.done)
	case "close":
		h.set = nil
	}
	a := answer{saying(data, gen, size, keys, page, did), number, c.op, c.troubleKey()}
	if number == 0 {
		a.op, a.key = "", ""
	}
	return a
}

// troubleKey is the Key of a Trouble of this call.
func (c call) troubleKey() string {
	if c.op == "heal" || c.op == "close" {
		return ""
	}
	return c.key
}

// wantSet wants a store to have a set that is just like the one by hand, drive by drive: those of like numbers in the two lists.
func wantSet[S subject](t *testing.T, s *store.Store, h *hand, mine, theirs []S) {
	t.Helper()
	set, is := s.Set()
	if h == nil || h.set == nil {
		fatalUnless(t, !is && set.Disks == nil && set.Shape == api.Shape{} && set.Store == [8]byte{} && set.Last == api.Gen{}, "Set = %v, %v", set, is)
		return
	}
	fatalUnless(t, is && set.Shape == h.set.Shape && set.Store == h.set.Store && set.Last == h.set.Last && len(set.Disks) == len(h.set.Disks), "Set = %v, %v, not %v", set, is, *h.set)
	me, they := disksOf(mine), disksOf(theirs)
	for place, d := range set.Disks {
		fatalUnless(t, slices.Index(me, d) == slices.Index(they, h.set.Disks[place]), "at the place %d there is another drive", place)
	}
}

// pair is a store, and one by hand over drives that are like its own.
type pair[S subject] struct {
	store        *store.Store
	hand         *hand
	mine, theirs []S
}

// check makes a call of both, and wants the same of them. It answers it.
func (p pair[S]) check(t *testing.T, c call) answer {
	t.Helper()
	want := p.hand.ask(c)
	got := ask(t, p.store, c)
	fatalUnless(t, got == want, "%v = %v, not %v", c, got, want)
	p.alike(t, fmt.Sprint(c))
	fatalUnless(t, got.number == api.OK || got.says == nothing || c.op == "heal" && got.number == api.ErrDegraded, "%v = %v", c, got)
	return got
}

// alike wants the drives of both to have been asked the same, and the sets to be alike.
func (p pair[S]) alike(t *testing.T, says string) {
	t.Helper()
	for i := range p.mine {
		fatalUnless(t, p.mine[i].chart() == p.theirs[i].chart(), "%s: the drive %d comes to\n%s\nnot\n%s", says, i, p.mine[i].chart(), p.theirs[i].chart())
	}
	wantSet(t, p.store, p.hand, p.mine, p.theirs)
}

// created are two stores, made in both ways, of drives that anew makes; false: there is none.
func created[S subject](t *testing.T, shape api.Shape, anew func() []S) (pair[S], api.Errno) {
	t.Helper()
	p := pair[S]{mine: anew(), theirs: anew()}
	h, want := createByHand(disksOf(p.theirs), shape, theStore())
	p.hand = h
	s, err := store.Create(disksOf(p.mine), shape, theStore())
	p.store = s
	p.begun(t, err, "create", want)
	return p, want
}

// reopened are two stores, opened in both ways, of the drives of both in an order.
func (p pair[S]) reopened(t *testing.T, order []int) (pair[S], api.Errno) {
	t.Helper()
	h, want := openByHand(inOrder(p.theirs, order))
	s, err := store.Open(inOrder(p.mine, order))
	p.store, p.hand = s, h
	p.begun(t, err, "open", want)
	return p, want
}

// begun wants a Create or an Open to have answered this number.
func (p pair[S]) begun(t *testing.T, err error, op string, want api.Errno) {
	t.Helper()
	number, word, key := numberOf(t, err)
	fatalUnless(t, number == want && (p.store == nil) == (want != api.OK), "%s = %v, %d, not %d", op, p.store, number, want)
	fatalUnless(t, number == api.OK || word == op && key == "", "%s: %q %q", op, word, key)
	p.alike(t, op)
}

// inOrder are those of the drives, in this order; -1: none.
func inOrder[S subject](l []S, order []int) []api.Disk {
	disks := make([]api.Disk, len(order))
	for i, x := range order {
		if x >= 0 {
			disks[i] = l[x]
		}
	}
	return disks
}

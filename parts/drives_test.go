package parts_test

import (
	"fmt"
	"maps"
	"slices"
	"strings"
	"testing"

	"cairn/api"
	"cairn/drive"
	"cairn/parts"
	"cairn/store"
	"cairn/wound"
)

var (
	_ subject = (*spy)(nil)
	_ subject = (*patient)(nil)
)

// subject is a drive that tells what it was asked, or came to, since it was asked so last.
type subject interface {
	api.Disk
	news() string
}

// fate says what a call of a drive in a round, 0, 1, .., is answered instead of being done; false: it is done.
type fate func(round int, call string) (api.Errno, bool)

// spy is a drive that writes down what it is asked.
type spy struct {
	files  map[string][]byte
	fate   fate
	struck func(round int) bool // does the power go in this round?
	over   func(round int)      // is told when a round is over
	off    bool
	rounds int
	asked  []string
}

// ask writes a call down; of one that isn't done it tells the number.
func (s *spy) ask(says string, args ...any) (api.Errno, bool) {
	text := fmt.Sprintf(says, args...)
	s.asked = append(s.asked, text)
	if s.off {
		return 122, true
	}
	if s.fate == nil {
		return 0, false
	}
	return s.fate(s.rounds, text)
}

func (s *spy) Create(name string) api.Errno {
	err, is := s.ask("Create %q", name)
	if !is {
		s.put(name, nil)
	}
	return err
}

func (s *spy) Append(name string, data []byte) api.Errno {
	err, is := s.ask("Append %q %x", name, data)
	if !is {
		s.put(name, slices.Concat(s.files[name], data))
	}
	return err
}

func (s *spy) Sync(name string) api.Errno {
	err, _ := s.ask("Sync %q", name)
	return err
}

func (s *spy) Rename(old, to string) api.Errno {
	err, is := s.ask("Rename %q %q", old, to)
	if !is {
		s.put(to, s.files[old])
		delete(s.files, old)
	}
	return err
}

func (s *spy) Remove(name string) api.Errno {
	if err, is := s.ask("Remove %q", name); is {
		return err
	}
	if _, is := s.files[name]; !is {
		return 110
	}
	delete(s.files, name)
	return 0
}

func (s *spy) SyncDir() api.Errno {
	err, _ := s.ask("SyncDir")
	return err
}

func (s *spy) List() ([]string, api.Errno) {
	if err, is := s.ask("List"); is {
		return nil, err
	}
	return slices.Collect(maps.Keys(s.files)), 0 // in no order
}

func (s *spy) Read(name string) ([]byte, api.Errno) {
	if err, is := s.ask("Read %q", name); is {
		return nil, err
	}
	b, is := s.files[name]
	if !is {
		return nil, 110
	}
	return b, 0
}

func (s *spy) Struck() bool {
	s.asked = append(s.asked, "Struck")
	return s.struck != nil && s.struck(s.rounds)
}

func (s *spy) Rest(off bool) {
	s.asked = append(s.asked, fmt.Sprint("Rest ", off))
	s.off = s.off || off
	s.rounds++
	if s.over != nil {
		s.over(s.rounds - 1)
	}
}

func (s *spy) put(name string, b []byte) {
	if s.files == nil {
		s.files = map[string][]byte{}
	}
	s.files[name] = b
}

func (s *spy) news() string {
	text := strings.Join(s.asked, "; ")
	s.asked = nil
	return text
}

// patient is a wound, which can lose its power.
type patient struct{ *wound.Wound }

func (p *patient) news() string {
	return fmt.Sprint(p.Image(), p.Safe(), p.Pending(), p.Used(), p.Calls(), p.Struck(), p.On())
}

func spies(n int) []*spy {
	l := make([]*spy, n)
	for i := range l {
		l[i] = &spy{}
	}
	return l
}

func patients(n, room int) []*patient {
	l := make([]*patient, n)
	for i := range l {
		l[i] = &patient{wound.New(drive.New(room))}
	}
	return l
}

func disksOf[S subject](l []S) []api.Disk {
	disks := make([]api.Disk, len(l))
	for i, s := range l {
		disks[i] = s
	}
	return disks
}

// pair is uploads, and some by hand over drives that are like their own.
type pair[S subject] struct {
	store        *store.Store
	uploads      *parts.Uploads
	hand         *hand
	mine, theirs []S
}

// paired are uploads in new stores of drives that anew makes.
func paired[S subject](t *testing.T, shape api.Shape, anew func() []S) *pair[S] {
	t.Helper()
	p := &pair[S]{mine: anew(), theirs: anew()}
	for i, l := range [][]S{p.mine, p.theirs} {
		s, err := store.Create(disksOf(l), shape, theStore())
		fatalUnless(t, err == nil, "Create: %v", err)
		p.over(i, s)
	}
	return p
}

// over makes these the stores of both: 0 that of the uploads, 1 that by hand.
func (p *pair[S]) over(which int, s *store.Store) {
	if which == 0 {
		p.store, p.uploads = s, parts.New(s)
	} else {
		p.hand = &hand{s: s}
	}
}

// reopened opens both stores anew, of their drives in an order.
func (p *pair[S]) reopened(t *testing.T, order []int) {
	t.Helper()
	for i, l := range [][]S{p.mine, p.theirs} {
		disks := make([]api.Disk, len(l))
		for j, x := range order {
			disks[j] = l[x]
		}
		s, err := store.Open(disks)
		fatalUnless(t, err == nil, "Open: %v", err)
		p.over(i, s)
	}
}

// each does something to both stores, and to the drives of both.
func (p *pair[S]) each(do func(s *store.Store, l []S)) {
	do(p.store, p.mine)
	do(p.hand.s, p.theirs)
}

// check makes a call in both ways, and wants the same of them; beside an error nothing else.
func (p *pair[S]) check(t *testing.T, c call) answer {
	t.Helper()
	want := p.hand.ask(c)
	got := ask(p.uploads, c)
	fatalUnless(t, got == want, "%+v = %v, not %v; the store was asked %q", c, got, want, p.hand.log)
	fatalUnless(t, got.number == api.OK || got.says == nothing, "%+v = %v", c, got)
	p.alike(t, fmt.Sprintf("%+v = %v", c, got))
	return got
}

// alike wants the drives of both to have been asked the same.
func (p *pair[S]) alike(t *testing.T, says string) {
	t.Helper()
	for i := range p.mine {
		m, h := p.mine[i].news(), p.theirs[i].news()
		fatalUnless(t, m == h, "%s: the drive %d comes to\n%s\nnot\n%s\n; the store was asked %q", says, i, m, h, p.hand.log)
	}
}

// number makes a call in both ways, and wants this number.
func (p *pair[S]) number(t *testing.T, c call, want api.Errno) answer {
	t.Helper()
	got := p.check(t, c)
	fatalUnless(t, got.number == want, "%+v = %v, not %d", c, got, want)
	return got
}

// asked makes a call in both ways, and wants the store to have been asked just so, each call with its number.
func (p *pair[S]) asked(t *testing.T, c call, number api.Errno, calls ...string) {
	t.Helper()
	p.number(t, c, number)
	fatalUnless(t, slices.Equal(p.hand.log, calls), "%+v asks the store\n%q, not\n%q", c, p.hand.log, calls)
}

// own are the own keys that stand.
func own(t *testing.T, s *store.Store) []string {
	t.Helper()
	l, err := s.List("\x00")
	fatalUnless(t, err == nil, "List: %v", err)
	return l
}

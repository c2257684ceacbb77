package cache_test

import (
	"errors"
	"fmt"
	"maps"
	"slices"
	"strings"
	"testing"

	"cairn/api"
	"cairn/cache"
	"cairn/drive"
	"cairn/store"
	"cairn/wound"
)

var (
	_ subject = (*spy)(nil)
	_ subject = (*patient)(nil)
)

// subject is a drive that tells what it was asked, or came to, since it was asked so last.
type subject interface {
	api.Disk
	news() string
}

// fate says what a call of a drive in a round, 0, 1, .., is answered instead of being done; false: it is done.
type fate func(round int, call string) (api.Errno, bool)

// spy is a drive that writes down what it is asked.
type spy struct {
	files  map[string][]byte
	fate   fate
	struck func(round int) bool // does the power go in this round?
	over   func(round int)      // is told when a round is over
	off    bool
	rounds int
	asked  []string
}

// ask writes a call down; of one that isn't done it tells the number.
func (s *spy) ask(says string, args ...any) (api.Errno, bool) {
	text := fmt.Sprintf(says, args...)
	s.asked = append(s.asked, text)
	if s.off {
		return 122, true
	}
	if s.fate == nil {
		return 0, false
	}
	return s.fate(s.rounds, text)
}

func (s *spy) Create(name string) api.Errno {
	err, is := s.ask("Create %q", name)
	if !is {
		s.put(name, nil)
	}
	return err
}

func (s *spy) Append(name string, data []byte) api.Errno {
	err, is := s.ask("Append %q %x", name, data)
	if !is {
		s.put(name, slices.Concat(s.files[name], data))
	}
	return err
}

func (s *spy) Sync(name string) api.Errno {
	err, _ := s.ask("Sync %q", name)
	return err
}

func (s *spy) Rename(old, to string) api.Errno {
	err, is := s.ask("Rename %q %q", old, to)
	if !is {
		s.put(to, s.files[old])
		delete(s.files, old)
	}
	return err
}

func (s *spy) Remove(name string) api.Errno {
	if err, is := s.ask("Remove %q", name); is {
		return err
	}
	if _, is := s.files[name]; !is {
		return 110
	}
	delete(s.files, name)
	return 0
}

func (s *spy) SyncDir() api.Errno {
	err, _ := s.ask("SyncDir")
	return err
}

func (s *spy) List() ([]string, api.Errno) {
	if err, is := s.ask("List"); is {
		return nil, err
	}
	return slices.Collect(maps.Keys(s.files)), 0 // in no order
}

func (s *spy) Read(name string) ([]byte, api.Errno) {
	if err, is := s.ask("Read %q", name); is {
		return nil, err
	}
	b, is := s.files[name]
	if !is {
		return nil, 110
	}
	return b, 0
}

func (s *spy) Struck() bool {
	s.asked = append(s.asked, "Struck")
	return s.struck != nil && s.struck(s.rounds)
}

func (s *spy) Rest(off bool) {
	s.asked = append(s.asked, fmt.Sprint("Rest ", off))
	s.off = s.off || off
	s.rounds++
	if s.over != nil {
		s.over(s.rounds - 1)
	}
}

func (s *spy) put(name string, b []byte) {
	if s.files == nil {
		s.files = map[string][]byte{}
	}
	s.files[name] = b
}

func (s *spy) news() string {
	text := strings.Join(s.asked, "; ")
	s.asked = nil
	return text
}

// patient is a wound, which can lose its power.
type patient struct{ *wound.Wound }

func (p *patient) news() string {
	return fmt.Sprint(p.Image(), p.Safe(), p.Pending(), p.Used(), p.Calls(), p.Struck(), p.On())
}

func spies(n int) []*spy {
	l := make([]*spy, n)
	for i := range l {
		l[i] = &spy{}
	}
	return l
}

func patients(n, room int) []*patient {
	l := make([]*patient, n)
	for i := range l {
		l[i] = &patient{wound.New(drive.New(room))}
	}
	return l
}

func disksOf[S subject](l []S) []api.Disk {
	disks := make([]api.Disk, len(l))
	for i, s := range l {
		disks[i] = s
	}
	return disks
}

// small is the shape of the chapter's examples.
func small() api.Shape { return api.Shape{K: 2, M: 1, Block: 4} }

// theStore is the name of the store that the tests play with.
func theStore() [8]byte { return [8]byte{7, 7: 9} }

// call is a call of a front, with all that it is handed.
type call struct{ op, key, data string }

// answer is what a call answers.
type answer struct {
	data   string
	healed api.Healed
	number api.Errno
}

// ask makes the call of a front.
func ask(f *cache.Front, c call) (a answer) {
	switch c.op {
	case "put":
		a.number = f.Put(c.key, []byte(c.data))
	case "get":
		var data []byte
		data, a.number = f.Get(c.key)
		a.data = string(data)
	case "delete":
		a.number = f.Delete(c.key)
	case "heal":
		a.healed, a.number = f.Heal()
	default:
		panic(c.op)
	}
	return a
}

// hand is a front by hand: the chapter's words, over a store and a cache by hand.
type hand struct {
	s      *store.Store
	memory *words[string, string]
}

func (h *hand) ask(c call) (a answer) {
	var err error
	switch c.op {
	case "put":
		h.memory.drop(c.key)
		err = h.s.Put(c.key, []byte(c.data))
		if err == nil {
			h.memory.put(c.key, c.data, len(c.key)+len(c.data))
		}
	case "get":
		if data, is := h.memory.get(c.key); is {
			return answer{data: data}
		}
		var data []byte
		data, err = h.s.Get(c.key)
		if err == nil {
			a.data = string(data)
			h.memory.put(c.key, a.data, len(c.key)+len(a.data))
		}
	case "delete":
		h.memory.drop(c.key)
		err = h.s.Delete(c.key)
	case "heal":
		h.memory.clear()
		a.healed, err = h.s.Heal()
	default:
		panic(c.op)
	}
	errors.As(err, &a.number)
	return a
}

// pair is a front, and one by hand over drives that are like its own.
type pair[S subject] struct {
	store        *store.Store
	front        *cache.Front
	hand         *hand
	mine, theirs []S
}

// paired are fronts of that room before new stores of drives that anew makes.
func paired[S subject](t *testing.T, shape api.Shape, room int, anew func() []S) *pair[S] {
	t.Helper()
	p := &pair[S]{mine: anew(), theirs: anew()}
	mine, err := store.Create(disksOf(p.mine), shape, theStore())
	fatalUnless(t, err == nil, "Create: %v", err)
	theirs, err := store.Create(disksOf(p.theirs), shape, theStore())
	fatalUnless(t, err == nil, "Create: %v", err)
	p.before(t, room, mine, theirs)
	p.alike(t, "Before")
	return p
}

// before puts fronts before the stores.
func (p *pair[S]) before(t *testing.T, room int, mine, theirs *store.Store) {
	t.Helper()
	front, number := cache.Before(mine, room)
	fatalUnless(t, front != nil && number == api.OK, "Before = %v, %d", front, number)
	p.store, p.front = mine, front
	p.hand = &hand{theirs, &words[string, string]{room: room}}
}

// each does something to both stores, and to the drives of both.
func (p *pair[S]) each(do func(s *store.Store, l []S)) {
	do(p.store, p.mine)
	do(p.hand.s, p.theirs)
}

// check makes a call in both ways, and wants the same of them, of their caches and of their drives.
func (p *pair[S]) check(t *testing.T, c call) answer {
	t.Helper()
	want := p.hand.ask(c)
	got := ask(p.front, c)
	fatalUnless(t, got == want, "%+v = %+v, not %+v", c, got, want)
	fatalUnless(t, got.number == api.OK || got.data == "", "%+v = %+v", c, got)
	p.alike(t, fmt.Sprintf("%+v = %+v", c, got))
	return got
}

// alike wants both caches to hold the same, and the drives of both to have been asked the same.
func (p *pair[S]) alike(t *testing.T, says string) {
	t.Helper()
	held := p.front.Held()
	fatalUnless(t, slices.Equal(held, p.hand.memory.keys()), "%s: %q are held, not %q", says, held, p.hand.memory.keys())
	for i := range p.mine {
		m, h := p.mine[i].news(), p.theirs[i].news()
		fatalUnless(t, m == h, "%s: the drive %d comes to\n%s\nnot\n%s", says, i, m, h)
	}
}

// number makes a call in both ways, and wants this number.
func (p *pair[S]) number(t *testing.T, c call, want api.Errno) answer {
	t.Helper()
	got := p.check(t, c)
	fatalUnless(t, got.number == want, "%+v = %+v, not %d", c, got, want)
	return got
}

// held wants these keys to be held.
func (p *pair[S]) held(t *testing.T, keys ...string) {
	t.Helper()
	fatalUnless(t, slices.Equal(p.front.Held(), keys), "%q are held, not %q", p.front.Held(), keys)
}

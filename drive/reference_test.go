package drive_test

import (
	"fmt"
	"math"
	"math/rand"
	"slices"
	"strings"
	"testing"

	"cairn/api"
	"cairn/drive"
)

// device is what the drive and its model have in common: all the chapter's calls.
type device interface {
	api.Disk
	Used() int
	Pending() int
	Loose(name string) (int, api.Errno)
	Crash(f api.Fate) api.Errno
	Image() []api.File
	Safe() []api.File
	Flip(name string, at int, pattern []byte) api.Errno
	Cut(name string, n int) api.Errno
	Wipe() api.Errno
}

var (
	_ device = (*drive.Drive)(nil)
	_ device = (*model)(nil)
)

// none is the number of no body.
const none = -1

// modelBody is some bytes, of which a beginning is safe.
type modelBody struct {
	bytes string
	safe  int
}

// modelLead says to which body, by its number, a name leads.
type modelLead struct {
	name string
	body int
}

// model is a drive in the chapter's words. It keeps no directory of what stands: that is what is safe, with all pending changes made. Bodies are never taken away.
type model struct {
	room    int
	bodies  []modelBody
	safe    []modelLead // rising
	pending [][]modelLead
}

func newModel(room int) *model { return loadModel(room, nil) }

func loadModel(room int, files []api.File) *model {
	m := &model{room: room}
	for _, f := range files {
		m.bodies = append(m.bodies, modelBody{string(f.Data), len(f.Data)})
		m.safe = put(m.safe, modelLead{f.Name, len(m.bodies) - 1})
	}
	return m
}

// put is the directory with that lead in place of the name's earlier one.
func put(dir []modelLead, l modelLead) []modelLead {
	var out []modelLead
	for _, other := range dir {
		if other.name != l.name {
			out = append(out, other)
		}
	}
	if l.body != none {
		out = append(out, l)
	}
	slices.SortFunc(out, func(a, b modelLead) int { return strings.Compare(a.name, b.name) })
	return out
}

// after is the directory with the changes made of which kept says so.
func after(dir []modelLead, changes [][]modelLead, kept func(i int) bool) []modelLead {
	for i, c := range changes {
		for _, l := range c {
			if kept(i) {
				dir = put(dir, l)
			}
		}
	}
	return dir
}

func (m *model) stands() []modelLead {
	return after(m.safe, m.pending, func(int) bool { return true })
}

func (m *model) bodyOf(name string) int {
	for _, l := range m.stands() {
		if l.name == name {
			return l.body
		}
	}
	return none
}

func noName(name string) bool { return name == "" || len(name) > 1024 }

// find is the name's body, and the error of a call that asks for nothing else.
func (m *model) find(name string) (int, api.Errno) {
	if noName(name) {
		return none, 91
	}
	b := m.bodyOf(name)
	if b == none {
		return none, 110
	}
	return b, 0
}

func (m *model) Create(name string) api.Errno {
	if noName(name) {
		return 91
	}
	if m.bodyOf(name) == none && len(m.stands()) >= 65536 {
		return 112
	}
	m.bodies = append(m.bodies, modelBody{})
	m.pending = append(m.pending, []modelLead{{name, len(m.bodies) - 1}})
	return 0
}

func (m *model) Append(name string, data []byte) api.Errno {
	b, err := m.find(name)
	if err != 0 {
		return err
	}
	if len(data) > 0 && m.Used()+len(data) > m.room {
		return 111
	}
	m.bodies[b].bytes += string(data)
	return 0
}

func (m *model) Sync(name string) api.Errno {
	b, err := m.find(name)
	if err != 0 {
		return err
	}
	m.bodies[b].safe = len(m.bodies[b].bytes)
	return 0
}

func (m *model) Rename(old, to string) api.Errno {
	if noName(old) || noName(to) {
		return 91
	}
	b, err := m.find(old)
	if err != 0 {
		return err
	}
	if old != to {
		m.pending = append(m.pending, []modelLead{{old, none}, {to, b}})
	}
	return 0
}

func (m *model) Remove(name string) api.Errno {
	if _, err := m.find(name); err != 0 {
		return err
	}
	m.pending = append(m.pending, []modelLead{{name, none}})
	return 0
}

func (m *model) SyncDir() api.Errno {
	m.safe, m.pending = m.stands(), nil
	return 0
}

func (m *model) Read(name string) ([]byte, api.Errno) {
	b, err := m.find(name)
	if err != 0 {
		return nil, err
	}
	return []byte(m.bodies[b].bytes), 0
}

func (m *model) List() ([]string, api.Errno) {
	var names []string
	for _, l := range m.stands() {
		names = append(names, l.name)
	}
	return names, 0
}

func (m *model) Struck() bool  { return false }
func (m *model) Rest(off bool) {}

func (m *model) Used() int {
	n := 0
	for _, l := range m.stands() {
		n += len(m.bodies[l.body].bytes)
	}
	return n
}

func (m *model) Pending() int { return len(m.pending) }

func (m *model) Loose(name string) (int, api.Errno) {
	b, err := m.find(name)
	if err != 0 {
		return 0, err
	}
	return len(m.bodies[b].bytes) - m.bodies[b].safe, 0
}

func (m *model) Image() []api.File {
	var l []api.File
	for _, lead := range m.stands() {
		l = append(l, api.File{Name: lead.name, Data: []byte(m.bodies[lead.body].bytes)})
	}
	return l
}

func (m *model) Safe() []api.File {
	var l []api.File
	for _, lead := range m.safe {
		b := m.bodies[lead.body]
		l = append(l, api.File{Name: lead.name, Data: []byte(b.bytes[:b.safe])})
	}
	return l
}

func (m *model) Crash(f api.Fate) api.Errno {
	names := after(m.safe, m.pending, func(i int) bool { return i < len(f.Dirs) && f.Dirs[i] })
	var files []api.File
	for j, l := range names {
		b := m.bodies[l.body]
		data := b.bytes[:b.safe]
		for c, loose := range []byte(b.bytes[b.safe:]) {
			if j < len(f.Cuts) && c < f.Cuts[j] {
				data += string([]byte{loose})
			}
		}
		files = append(files, api.File{Name: l.name, Data: []byte(data)})
	}
	*m = *loadModel(m.room, files)
	return 0
}

func (m *model) Flip(name string, at int, pattern []byte) api.Errno {
	if noName(name) {
		return 91
	}
	if at < 0 {
		return 2
	}
	b, err := m.find(name)
	if err != 0 {
		return err
	}
	data := []byte(m.bodies[b].bytes)
	for place := range data {
		if place >= at && place-at < len(pattern) {
			data[place] ^= pattern[place-at]
		}
	}
	m.bodies[b].bytes = string(data)
	return 0
}

func (m *model) Cut(name string, n int) api.Errno {
	if noName(name) {
		return 91
	}
	if n < 0 {
		return 2
	}
	b, err := m.find(name)
	if err != 0 {
		return err
	}
	if of := &m.bodies[b]; len(of.bytes) > n {
		of.bytes = of.bytes[:n]
		if of.safe > n {
			of.safe = n
		}
	}
	return 0
}

func (m *model) Wipe() api.Errno {
	*m = *newModel(m.room)
	return 0
}

// step is a call with its arguments, and what it answers, as a text.
type step struct {
	says string
	do   func(d device) string
}

func (s step) String() string { return s.says }

// number is the step of a call that answers a number alone.
func number(do func(d device) api.Errno, says string, args ...any) step {
	return step{fmt.Sprintf(says, args...), func(d device) string { return fmt.Sprint(int(do(d))) }}
}

func create(name string) step {
	return number(func(d device) api.Errno { return d.Create(name) }, "Create %.20q", name)
}

func appendTo(name, data string) step {
	return number(func(d device) api.Errno { return d.Append(name, []byte(data)) }, "Append %.20q %.20q", name, data)
}

func syncFile(name string) step {
	return number(func(d device) api.Errno { return d.Sync(name) }, "Sync %.20q", name)
}

func rename(old, to string) step {
	return number(func(d device) api.Errno { return d.Rename(old, to) }, "Rename %.20q %.20q", old, to)
}

func remove(name string) step {
	return number(func(d device) api.Errno { return d.Remove(name) }, "Remove %.20q", name)
}

func syncDir() step { return number(device.SyncDir, "SyncDir") }

func crash(f api.Fate) step {
	return number(func(d device) api.Errno { return d.Crash(f) }, "Crash %v", f)
}

func flip(name string, at int, pattern ...byte) step {
	return number(func(d device) api.Errno { return d.Flip(name, at, pattern) }, "Flip %.20q %d %v", name, at, pattern)
}

func cut(name string, n int) step {
	return number(func(d device) api.Errno { return d.Cut(name, n) }, "Cut %.20q %d", name, n)
}

func wipe() step { return number(device.Wipe, "Wipe") }

func read(name string) step {
	return step{fmt.Sprintf("Read %.20q", name), func(d device) string {
		b, err := d.Read(name)
		return fmt.Sprintf("%q %d", b, int(err))
	}}
}

func loose(name string) step {
	return step{fmt.Sprintf("Loose %.20q", name), func(d device) string {
		n, err := d.Loose(name)
		return fmt.Sprintf("%d %d", n, int(err))
	}}
}

func list() step {
	return step{"List", func(d device) string {
		l, err := d.List()
		return fmt.Sprintf("%q %d", l, int(err))
	}}
}

func used() step {
	return step{"Used", func(d device) string { return fmt.Sprint(d.Used()) }}
}

func pending() step {
	return step{"Pending", func(d device) string { return fmt.Sprint(d.Pending()) }}
}

func filesAsText(files []api.File) string {
	var b strings.Builder
	for _, f := range files {
		fmt.Fprintf(&b, "%q:%q ", f.Name, f.Data)
	}
	return b.String()
}

func image() step {
	return step{"Image", func(d device) string { return filesAsText(d.Image()) }}
}

func safe() step {
	return step{"Safe", func(d device) string { return filesAsText(d.Safe()) }}
}

// sameAnswer makes the step on both.
func sameAnswer(t *testing.T, d, m device, s step, behind []step) {
	t.Helper()
	if got, want := s.do(d), s.do(m); got != want {
		t.Fatalf("%v = %.300s, not %.300s; behind %v", s, got, want, behind)
	}
}

// sameState asks both for all that can be told of them.
func sameState(t *testing.T, d, m device, behind []step) {
	t.Helper()
	for _, s := range []step{image(), safe(), used(), pending(), list()} {
		sameAnswer(t, d, m, s, behind)
	}
	names, _ := m.List()
	for _, f := range m.Safe() {
		names = append(names, f.Name)
	}
	for _, name := range names {
		sameAnswer(t, d, m, read(name), behind)
		sameAnswer(t, d, m, loose(name), behind)
	}
}

func source(seed int64) *rand.Rand { return rand.New(rand.NewSource(seed)) }

func someText(r *rand.Rand, n int) string {
	b := make([]byte, n)
	r.Read(b)
	return string(b)
}

// pick is one of the list.
func pick[E any](r *rand.Rand, l ...E) E { return l[r.Intn(len(l))] }

// someFate has elements for about as many changes and names as there are.
func someFate(r *rand.Rand, changes, names int) api.Fate {
	var f api.Fate
	often := r.Intn(5)
	for range r.Intn(changes + 3) {
		f.Dirs = append(f.Dirs, r.Intn(4) < often)
	}
	for range r.Intn(names + 3) {
		f.Cuts = append(f.Cuts, pick(r, 0, 1, 2, 3, r.Intn(12), -1, math.MaxInt, math.MinInt))
	}
	return f
}

// someStep is a call of one of the names, which are few, so that it often hits.
func someStep(r *rand.Rand, d device, names []string) step {
	name, to := pick(r, names...), pick(r, names...)
	switch r.Intn(40) {
	case 0, 1, 2, 3, 4, 5:
		return create(name)
	case 6, 7, 8, 9, 10, 11, 12, 13:
		return appendTo(name, someText(r, pick(r, 0, 1, 2, 3, 5, 8, 30)))
	case 14, 15, 16, 17:
		return syncFile(name)
	case 18, 19, 20, 21, 22, 23:
		return rename(name, to)
	case 24, 25, 26:
		return remove(name)
	case 27, 28:
		return syncDir()
	case 29:
		return crash(someFate(r, d.Pending(), len(names)))
	case 30, 31, 32:
		return flip(name, pick(r, 0, 1, 2, r.Intn(20), -1, math.MaxInt, math.MinInt), []byte(someText(r, r.Intn(5)))...)
	case 33, 34:
		return cut(name, pick(r, 0, 1, 2, r.Intn(20), -1, math.MaxInt, math.MinInt))
	case 35:
		if r.Intn(8) == 0 {
			return wipe()
		}
	}
	return pick(r, read(name), loose(name), list(), used(), pending(), image(), safe())
}

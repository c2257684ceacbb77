package wound_test

import (
	"fmt"
	"math"
	"math/rand"
	"strings"
	"testing"

	"cairn/api"
	"cairn/drive"
	"cairn/wound"
)

// own is what a wound does not do in its own way.
type own interface {
	Used() int
	Pending() int
	Loose(name string) (int, api.Errno)
	Crash(f api.Fate) api.Errno
	Image() []api.File
	Safe() []api.File
	Flip(name string, at int, pattern []byte) api.Errno
	Cut(name string, n int) api.Errno
	Wipe() api.Errno
}

// device is what a drive and a wound have in common.
type device interface {
	api.Disk
	own
}

// victim is what a wound and its model have in common: all the chapter's calls.
type victim interface {
	device
	Arm(plan []api.Fault)
	Calls() int
	Offline(off bool)
	Fuse(round, call, inside int)
	Power(on bool)
	On() bool
}

var (
	_ api.Disk = (*wound.Wound)(nil)
	_ victim   = (*wound.Wound)(nil)
	_ victim   = (*model)(nil)
	_ device   = (*drive.Drive)(nil)
)

// model is a wound in the chapter's words, over a drive of its own.
type model struct {
	own
	drive             *drive.Drive
	on, offline       bool
	plan              []api.Fault
	calls, roundCalls int
	fuse              []int // none, or round, call, inside
}

func newModel(d *drive.Drive) *model { return &model{own: d, drive: d, on: true} }

// goes is how a call of the drive goes: whole is the call itself, first the same with that many of its first bytes alone.
func (m *model) goes(kind string, whole func() api.Errno, first func(n int)) api.Errno {
	if !m.on {
		return 122
	}
	if m.offline {
		return 121
	}
	number, inRound := m.calls, m.roundCalls
	m.calls, m.roundCalls = number+1, inRound+1
	if m.fuse != nil && m.fuse[0] == 0 && m.fuse[1] == inRound {
		if kind == "Append" {
			first(m.fuse[2])
		}
		m.on = false
		return 122
	}
	for _, f := range m.plan {
		if f.At != number {
			continue
		}
		if f.Kind == 1 {
			return 120
		}
		if f.Kind == 2 && (kind == "Create" || kind == "Append") {
			return 111
		}
		break
	}
	return whole()
}

func (m *model) Create(name string) api.Errno {
	return m.goes("Create", func() api.Errno { return m.drive.Create(name) }, nil)
}

func (m *model) Append(name string, data []byte) api.Errno {
	first := func(n int) {
		var few []byte
		for i, b := range data {
			if i < n {
				few = append(few, b)
			}
		}
		m.drive.Append(name, few)
	}
	return m.goes("Append", func() api.Errno { return m.drive.Append(name, data) }, first)
}

func (m *model) Sync(name string) api.Errno {
	return m.goes("Sync", func() api.Errno { return m.drive.Sync(name) }, nil)
}

func (m *model) Rename(old, to string) api.Errno {
	return m.goes("Rename", func() api.Errno { return m.drive.Rename(old, to) }, nil)
}

func (m *model) Remove(name string) api.Errno {
	return m.goes("Remove", func() api.Errno { return m.drive.Remove(name) }, nil)
}

func (m *model) SyncDir() api.Errno { return m.goes("SyncDir", m.drive.SyncDir, nil) }

func (m *model) Read(name string) (b []byte, err api.Errno) {
	err = m.goes("Read", func() (err api.Errno) { b, err = m.drive.Read(name); return }, nil)
	return
}

func (m *model) List() (l []string, err api.Errno) {
	err = m.goes("List", func() (err api.Errno) { l, err = m.drive.List(); return }, nil)
	return
}

func (m *model) Arm(plan []api.Fault) { m.plan, m.calls = plan, 0 }
func (m *model) Calls() int           { return m.calls }
func (m *model) Offline(off bool)     { m.offline = off }
func (m *model) Struck() bool         { return m.fuse != nil && m.fuse[0] == 0 }
func (m *model) Power(on bool)        { m.on = on }
func (m *model) On() bool             { return m.on }

func (m *model) Fuse(round, call, inside int) {
	m.fuse = []int{round, call, inside}
	if round < 0 {
		m.fuse = nil
	}
}

func (m *model) Rest(off bool) {
	m.roundCalls = 0
	if m.Struck() {
		m.fuse = nil
	}
	if m.fuse != nil {
		m.fuse = []int{m.fuse[0] - 1, m.fuse[1], m.fuse[2]}
	}
	m.on = m.on && !off
}

// step is a call of a drive or a wound with its arguments, and what it answers, as a text.
type step struct {
	says string
	do   func(d device) string
}

func (s step) String() string { return s.says }

// number is the step of a call that answers a number alone.
func number(do func(d device) api.Errno, says string, args ...any) step {
	return step{fmt.Sprintf(says, args...), func(d device) string { return fmt.Sprint(int(do(d))) }}
}

// still is the step of a call of wounds that answers nothing.
func still(do func(v victim), says string, args ...any) step {
	return step{fmt.Sprintf(says, args...), func(d device) string { do(d.(victim)); return "" }}
}

func create(name string) step {
	return number(func(d device) api.Errno { return d.Create(name) }, "Create %.20q", name)
}

func appendTo(name, data string) step {
	return number(func(d device) api.Errno { return d.Append(name, []byte(data)) }, "Append %.20q %.20q", name, data)
}

func syncFile(name string) step {
	return number(func(d device) api.Errno { return d.Sync(name) }, "Sync %.20q", name)
}

func rename(old, to string) step {
	return number(func(d device) api.Errno { return d.Rename(old, to) }, "Rename %.20q %.20q", old, to)
}

func remove(name string) step {
	return number(func(d device) api.Errno { return d.Remove(name) }, "Remove %.20q", name)
}

func syncDir() step { return number(device.SyncDir, "SyncDir") }

func read(name string) step {
	return step{fmt.Sprintf("Read %.20q", name), func(d device) string {
		b, err := d.Read(name)
		return fmt.Sprintf("%q %d", b, int(err))
	}}
}

func list() step {
	return step{"List", func(d device) string {
		l, err := d.List()
		return fmt.Sprintf("%q %d", l, int(err))
	}}
}

func arm(plan ...api.Fault) step {
	return still(func(v victim) { v.Arm(plan) }, "Arm %v", plan)
}

func offline(off bool) step {
	return still(func(v victim) { v.Offline(off) }, "Offline %v", off)
}

func fuse(round, call, inside int) step {
	return still(func(v victim) { v.Fuse(round, call, inside) }, "Fuse %d %d %d", round, call, inside)
}

func rest(off bool) step {
	return step{fmt.Sprint("Rest ", off), func(d device) string { d.Rest(off); return "" }}
}

func power(on bool) step {
	return still(func(v victim) { v.Power(on) }, "Power %v", on)
}

func calls() step {
	return step{"Calls", func(d device) string { return fmt.Sprint(d.(victim).Calls()) }}
}

func on() step {
	return step{"On", func(d device) string { return fmt.Sprint(d.(victim).On()) }}
}

func struck() step {
	return step{"Struck", func(d device) string { return fmt.Sprint(d.Struck()) }}
}

func used() step {
	return step{"Used", func(d device) string { return fmt.Sprint(d.Used()) }}
}

func pending() step {
	return step{"Pending", func(d device) string { return fmt.Sprint(d.Pending()) }}
}

func loose(name string) step {
	return step{fmt.Sprintf("Loose %.20q", name), func(d device) string {
		n, err := d.Loose(name)
		return fmt.Sprintf("%d %d", n, int(err))
	}}
}

func crash(f api.Fate) step {
	return number(func(d device) api.Errno { return d.Crash(f) }, "Crash %v", f)
}

func flip(name string, at int, pattern ...byte) step {
	return number(func(d device) api.Errno { return d.Flip(name, at, pattern) }, "Flip %.20q %d %v", name, at, pattern)
}

func cut(name string, n int) step {
	return number(func(d device) api.Errno { return d.Cut(name, n) }, "Cut %.20q %d", name, n)
}

func wipe() step { return number(device.Wipe, "Wipe") }

func image() step {
	return step{"Image", func(d device) string { return filesAsText(d.Image()) }}
}

func safe() step {
	return step{"Safe", func(d device) string { return filesAsText(d.Safe()) }}
}

func filesAsText(files []api.File) string {
	var b strings.Builder
	for _, f := range files {
		fmt.Fprintf(&b, "%q:%q ", f.Name, f.Data)
	}
	return b.String()
}

// stateOf is all that can be told of a drive without a call of it.
func stateOf(d own) string {
	var b strings.Builder
	image, safe := d.Image(), d.Safe()
	fmt.Fprint(&b, filesAsText(image), "safe ", filesAsText(safe), "used ", d.Used(), " pending ", d.Pending(), " loose")
	for _, f := range image {
		n, err := d.Loose(f.Name)
		fmt.Fprint(&b, " ", n, " ", int(err))
	}
	return b.String()
}

// wholeState is all that can be told of a wound without a call of its drive.
func wholeState(v victim) string {
	return fmt.Sprint(stateOf(v), "; on ", v.On(), " calls ", v.Calls(), " struck ", v.Struck())
}

// sameAnswer makes the step on both.
func sameAnswer(t *testing.T, a, b device, s step, behind []step) string {
	t.Helper()
	got, want := s.do(a), s.do(b)
	if got != want {
		t.Fatalf("%v = %.300s, not %.300s; behind %v", s, got, want, behind)
	}
	return got
}

// sameState asks both for all that can be told of them.
func sameState(t *testing.T, a, b victim, behind []step) {
	t.Helper()
	if got, want := wholeState(a), wholeState(b); got != want {
		t.Fatalf("it came to %.400s, not %.400s; behind %v", got, want, behind)
	}
}

func source(seed int64) *rand.Rand { return rand.New(rand.NewSource(seed)) }

// pick is one of the list.
func pick[E any](r *rand.Rand, l ...E) E { return l[r.Intn(len(l))] }

func someText(r *rand.Rand, n int) string {
	b := make([]byte, n)
	r.Read(b)
	return string(b)
}

// someNumber is most often a small one.
func someNumber(r *rand.Rand) int {
	return pick(r, 0, 0, 0, 1, 1, 2, 3, r.Intn(9), -1, -2, math.MaxInt, math.MinInt)
}

// someCall is a call of the drive.
func someCall(r *rand.Rand, names []string) step {
	name, to := pick(r, names...), pick(r, names...)
	switch r.Intn(16) {
	case 0, 1, 2:
		return create(name)
	case 3, 4, 5, 6, 7:
		return appendTo(name, someText(r, pick(r, 0, 1, 2, 3, 5, 8, 30)))
	case 8, 9:
		return syncFile(name)
	case 10, 11:
		return rename(name, to)
	case 12:
		return remove(name)
	case 13:
		return syncDir()
	case 14:
		return list()
	}
	return read(name)
}

// someHarm is a call that is the drive's own and changes it.
func someHarm(r *rand.Rand, names []string) step {
	name := pick(r, names...)
	f := api.Fate{Dirs: make([]bool, r.Intn(9)), Cuts: make([]int, r.Intn(5))}
	for i := range f.Dirs {
		f.Dirs[i] = r.Intn(2) == 0
	}
	for i := range f.Cuts {
		f.Cuts[i] = someNumber(r)
	}
	return pick(r, crash(f), crash(f), flip(name, someNumber(r), []byte(someText(r, r.Intn(4)))...), cut(name, someNumber(r)), wipe())
}

func somePlan(r *rand.Rand) []api.Fault {
	var plan []api.Fault
	for range r.Intn(8) {
		plan = append(plan, api.Fault{At: someNumber(r), Kind: pick(r, 1, 1, 1, 2, 2, 2, 0, 3, -1, math.MaxInt)})
	}
	return plan
}

// someTurn is a call of the wound itself.
func someTurn(r *rand.Rand) step {
	switch r.Intn(10) {
	case 0, 1:
		return arm(somePlan(r)...)
	case 2:
		return offline(r.Intn(3) == 0)
	case 3, 4, 5:
		return fuse(someNumber(r), someNumber(r), someNumber(r))
	case 6, 7:
		return rest(r.Intn(4) == 0)
	}
	return power(r.Intn(4) != 0)
}

// someStep is any of all calls.
func someStep(r *rand.Rand, names []string) step {
	switch r.Intn(20) {
	case 0, 1, 2, 3, 4, 5, 6:
		return someTurn(r)
	case 7:
		return someHarm(r, names)
	}
	return someCall(r, names)
}

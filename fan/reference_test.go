package fan_test

import (
	"fmt"
	"math/rand"
	"slices"
	"sync"
	"testing"

	"cairn/api"
	"cairn/drive"
	"cairn/wound"
)

var _ api.Disk = (*spy)(nil)

// diary is what happened, in its order, whoever tells it.
type diary struct {
	lock  sync.Mutex
	lines []string
}

func (d *diary) add(says string, args ...any) {
	d.lock.Lock()
	defer d.lock.Unlock()
	d.lines = append(d.lines, fmt.Sprintf(says, args...))
}

// spy is a drive that writes down what it is asked, and is struck if it was told to be.
type spy struct {
	diary  *diary
	name   int
	struck bool
}

func (s *spy) ask(call string) api.Errno {
	s.diary.add("%s %d", call, s.name)
	return api.OK
}

func (s *spy) Create(string) api.Errno         { return s.ask("Create") }
func (s *spy) Append(string, []byte) api.Errno { return s.ask("Append") }
func (s *spy) Sync(string) api.Errno           { return s.ask("Sync") }
func (s *spy) Rename(string, string) api.Errno { return s.ask("Rename") }
func (s *spy) Remove(string) api.Errno         { return s.ask("Remove") }
func (s *spy) SyncDir() api.Errno              { return s.ask("SyncDir") }
func (s *spy) Read(string) ([]byte, api.Errno) { return nil, s.ask("Read") }
func (s *spy) List() ([]string, api.Errno)     { return nil, s.ask("List") }
func (s *spy) Struck() bool                    { s.ask("Struck"); return s.struck }
func (s *spy) Rest(off bool)                   { s.ask(fmt.Sprint("Rest ", off)) }

// spies are drives at the places where there is one, struck where it is; each has its place for a name.
func spies(book *diary, there, struck []bool) []api.Disk {
	disks := make([]api.Disk, len(there))
	for i := range disks {
		if there[i] {
			disks[i] = &spy{diary: book, name: i, struck: struck[i]}
		}
	}
	return disks
}

// allThere are n spies that are not struck.
func allThere(book *diary, n int) []api.Disk {
	return spies(book, slices.Repeat([]bool{true}, n), make([]bool, n))
}

// wordsOfEnd is how P16.2 says that a round ends.
func wordsOfEnd(there, struck []bool) []string {
	var asked, told []string
	one := false
	for i := range there {
		one = one || there[i] && struck[i]
	}
	for i := range there {
		if there[i] {
			asked = append(asked, fmt.Sprintf("Struck %d", i))
			told = append(told, fmt.Sprintf("Rest %v %d", one, i))
		}
	}
	return append(asked, told...)
}

// subsets are all lists of so many bools.
func subsets(n int) [][]bool {
	var all [][]bool
	for number := range 1 << n {
		l := make([]bool, n)
		for i := range l {
			l[i] = number>>i&1 == 1
		}
		all = append(all, l)
	}
	return all
}

// wordsOfCount is P16.3 in its words, with == as the caller has it.
func wordsOfCount[T any](l []T, x T, same func(x, y T) bool) int {
	n := 0
	for i := range l {
		if same(l[i], x) {
			n++
		}
	}
	return n
}

// wordsOfMost is P16.3 in its words: the place of the element (-1: there is none), and how often it is there.
func wordsOfMost[T any](l []T, same func(x, y T) bool) (at, n int) {
	greatest := 0
	for _, x := range l {
		greatest = max(greatest, wordsOfCount(l, x, same))
	}
	for i, x := range l {
		if wordsOfCount(l, x, same) == greatest {
			return i, greatest
		}
	}
	return -1, 0
}

// patient is a wound, made of a seed, so that two can be made that are alike.
func patient(seed int64) *wound.Wound {
	r := source(seed)
	var files []api.File
	for _, name := range []string{"a", "b"} {
		if r.Intn(3) > 0 {
			files = append(files, api.File{Name: name, Data: make([]byte, r.Intn(9))})
		}
	}
	return wound.New(drive.Load(pick(r, 5, 20, 60, 1000), files))
}

// strike does to a wound, between two rounds, what the seed says.
func strike(w *wound.Wound, seed int64) {
	r := source(seed)
	switch r.Intn(12) {
	case 0, 1:
		w.Fuse(r.Intn(3), r.Intn(7), r.Intn(5))
	case 2, 3:
		w.Arm([]api.Fault{{At: r.Intn(8), Kind: pick(r, api.FaultIO, api.FaultFull)}, {At: r.Intn(8), Kind: api.FaultIO}})
	case 4:
		w.Offline(r.Intn(2) == 0)
	case 5, 6, 7, 8:
		w.Offline(false)
		w.Power(true)
	case 9:
		w.Crash(api.Fate{Dirs: []bool{r.Intn(2) == 0, true, r.Intn(2) == 0}, Cuts: []int{1, 2, 9}})
	}
}

// treat makes some calls of a drive, by the seed, and tells all that it was answered.
func treat(d api.Disk, seed int64) string {
	r := source(seed)
	text := ""
	for range r.Intn(8) {
		name, to := pick(r, "a", "b", "c"), pick(r, "a", "b", "c")
		switch r.Intn(8) {
		case 0:
			text += fmt.Sprintln("Create", name, d.Create(name))
		case 1:
			text += fmt.Sprintln("Append", name, d.Append(name, make([]byte, r.Intn(9))))
		case 2:
			text += fmt.Sprintln("Sync", name, d.Sync(name))
		case 3:
			text += fmt.Sprintln("Rename", name, to, d.Rename(name, to))
		case 4:
			text += fmt.Sprintln("Remove", name, d.Remove(name))
		case 5:
			text += fmt.Sprintln("SyncDir", d.SyncDir())
		case 6:
			b, err := d.Read(name)
			text += fmt.Sprintln("Read", name, b, err)
		case 7:
			l, err := d.List()
			text += fmt.Sprintln("List", l, err)
		}
	}
	return text
}

// chart is all that can be told of a wound but for its power.
func chart(w *wound.Wound) string {
	return fmt.Sprint(w.Image(), w.Safe(), w.Pending(), w.Used(), w.Calls(), w.Struck())
}

func source(seed int64) *rand.Rand { return rand.New(rand.NewSource(seed)) }

// pick is one of the list.
func pick[E any](r *rand.Rand, l ...E) E { return l[r.Intn(len(l))] }

func fatalUnless(t *testing.T, is bool, says string, args ...any) {
	t.Helper()
	if !is {
		t.Fatalf(says, args...)
	}
}

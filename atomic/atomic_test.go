package atomic_test

import (
	"bytes"
	"fmt"
	"math"
	"slices"
	"strings"
	"testing"

	"cairn/api"
	"cairn/atomic"
	"cairn/drive"
	"cairn/naming"
	"cairn/wound"
)

func fatalUnless(t *testing.T, is bool, says string, args ...any) {
	t.Helper()
	if !is {
		t.Fatalf(says, args...)
	}
}

func wantNumber(t *testing.T, says string, got, want api.Errno) {
	t.Helper()
	fatalUnless(t, got == want, "%s = %d, not %d", says, got, want)
}

func wantRead(t *testing.T, d api.Disk, name, want string) {
	t.Helper()
	b, err := d.Read(name)
	fatalUnless(t, string(b) == want && err == api.OK, "Read %q = %q, %d, not %q", name, b, err, want)
}

func wantList(t *testing.T, d api.Disk, want ...string) {
	t.Helper()
	l, err := d.List()
	fatalUnless(t, slices.Equal(l, want) && err == api.OK, "List = %q, %d, not %q", l, err, want)
}

func wantSweep(t *testing.T, d api.Disk, n int, want api.Errno) {
	t.Helper()
	got, err := atomic.Sweep(d)
	fatalUnless(t, got == n && err == want, "Sweep = %d, %d, not %d, %d", got, err, n, want)
}

func wantAsked(t *testing.T, s *spy, want []string) {
	t.Helper()
	fatalUnless(t, slices.Equal(s.asked, want), "with the answers %v the drive was asked %q, not %q", s.answers, s.asked, want)
}

func arm(w *wound.Wound, at, kind int) { w.Arm([]api.Fault{{At: at, Kind: kind}}) }

// The chapter's examples, row by row.
func TestExamples(t *testing.T) {
	w := wound.New(drive.New(100))
	wantNumber(t, "Write", atomic.Write(w, "f", []byte("one")), api.OK)
	wantRead(t, w, "f", "one")
	fatalUnless(t, w.Calls() == 6, "Calls = %d", w.Calls())
	wantNumber(t, "Write t", atomic.Write(w, "t", []byte("x")), api.ErrName)
	wantNumber(t, "Write of no name", atomic.Write(w, "", []byte("x")), api.ErrName)
	wantNumber(t, "Remove t", atomic.Remove(w, "t"), api.ErrName)
	fatalUnless(t, w.Calls() == 6, "Calls = %d", w.Calls())
	arm(w, 2, api.FaultIO)
	wantNumber(t, "Write", atomic.Write(w, "f", []byte("two")), api.ErrIO)
	wantRead(t, w, "f", "one")
	wantList(t, w, "f", "t")
	wantSweep(t, w, 1, api.OK)
	wantList(t, w, "f")
	wantSweep(t, w, 0, api.OK)
	arm(w, 4, api.FaultIO)
	wantNumber(t, "Write", atomic.Write(w, "f", []byte("two")), api.ErrIO)
	wantRead(t, w, "f", "two")
	w.Crash(api.Fate{})
	wantRead(t, w, "f", "one")
	wantNumber(t, "Remove", atomic.Remove(w, "f"), api.OK)
	wantNumber(t, "Remove", atomic.Remove(w, "f"), api.OK)
	wantList(t, w)
	wantNumber(t, "Write", atomic.Write(nil, "f", []byte("x")), api.ErrNil)
	wantNumber(t, "Remove", atomic.Remove(nil, "f"), api.ErrNil)
	wantSweep(t, nil, 0, api.ErrNil)
}

// numbers are answers of a drive: all the chapters' kinds, and such as no chapter has.
var numbers = []api.Errno{api.OK, api.ErrNil, api.ErrName, api.ErrMissing, api.ErrFull, api.ErrMany, api.ErrIO, api.ErrOffline, api.ErrDown, -1, 999, math.MaxInt, math.MinInt}

// everyAnswer goes through all lists of so many of a drive's answers.
func everyAnswer(n int, from []api.Errno, do func(answers []api.Errno)) {
	answers := make([]api.Errno, n)
	var fill func(i int)
	fill = func(i int) {
		if i == n {
			do(slices.Clone(answers))
			return
		}
		for _, err := range from {
			answers[i] = err
			fill(i + 1)
		}
	}
	fill(0)
}

// someNames may all be names of files: of one byte, of the most, near to the temporary file's, the label's, a key's, no runes.
func someNames() []string {
	key, _ := naming.Object("a")
	return []string{"f", strings.Repeat("x", 1024), strings.Repeat("t", 1024), "T", "tt", "t ", " t", "t\x00", "\x00", "\xff", "é", naming.Label, "o", key}
}

// P13.1: of every answer of every call the chapter's calls up to the first that is refused, and its error.
func TestWriteAsksInOrder(t *testing.T) {
	few := []api.Errno{api.OK, api.ErrMissing, api.ErrIO, -1}
	for _, name := range someNames() {
		for _, data := range []string{"", "x", "two words", "\x00\xff", strings.Repeat("y", 5000)} {
			everyAnswer(5, few, func(answers []api.Errno) {
				s := &spy{answers: answers, names: []string{"t", name}}
				asked, want := wordsOfWrite(name, data, answers)
				wantNumber(t, "Write", atomic.Write(s, name, []byte(data)), want)
				wantAsked(t, s, asked)
			})
		}
	}
}

// P13.1: whatever number refuses a call, it is the answer, and nothing is called behind it.
func TestWriteAnswersTheDrivesNumber(t *testing.T) {
	for at := range 5 {
		for _, err := range numbers {
			answers := make([]api.Errno, 5)
			answers[at] = err
			s := &spy{answers: answers}
			asked, want := wordsOfWrite("f", "x", answers)
			wantNumber(t, "Write", atomic.Write(s, "f", []byte("x")), want)
			wantAsked(t, s, asked)
			fatalUnless(t, err == api.OK || len(s.asked) == at+1 && want == err, "%d at %d: %d, %q", err, at, want, s.asked)
		}
	}
}

// P13.1: Append is called of no bytes too, and the file is there without any.
func TestWriteOfNoBytes(t *testing.T) {
	for _, data := range [][]byte{nil, {}} {
		s := &spy{}
		wantNumber(t, "Write", atomic.Write(s, "f", data), api.OK)
		wantAsked(t, s, []string{`Create "t"`, `Append "t" ""`, `Sync "t"`, `Rename "t" "f"`, "SyncDir"})
		d := drive.Load(3, []api.File{{Name: "f", Data: []byte("one")}})
		wantNumber(t, "Write", atomic.Write(d, "f", data), api.OK)
		wantRead(t, d, "f", "")
		wantList(t, d, "f")
	}
}

// P13.1, of drives: what is written is there alone, safe, in the place of what was, whatever a broken off Write left.
func TestWriteIsSafe(t *testing.T) {
	for _, name := range someNames() {
		for _, data := range []string{"", "x", "new bytes", strings.Repeat("\x00\xff", 500)} {
			d := drive.Load(5000, []api.File{{Name: name, Data: []byte("older and longer than some")}, {Name: "t", Data: []byte("left")}, {Name: "other", Data: []byte("one")}})
			w := wound.New(d)
			wantNumber(t, "Write", atomic.Write(w, name, []byte(data)), api.OK)
			fatalUnless(t, w.Calls() == 5, "Calls = %d", w.Calls())
			wantRead(t, d, name, data)
			wantRead(t, d, "other", "one")
			fatalUnless(t, d.Pending() == 0 && len(d.Image()) == 2, "%d pending, of %v", d.Pending(), d.Image())
			d.Crash(api.Fate{})
			wantRead(t, d, name, data)
			wantRead(t, d, "other", "one")
			fatalUnless(t, len(d.Image()) == 2, "a loss of power leaves %v", d.Image())
		}
	}
}

// P13.1: old and new stand beside one another until the Rename: so a drive must have room for both, and a name to spare.
func TestWriteTakesRoomForBoth(t *testing.T) {
	d := drive.Load(10, []api.File{{Name: "f", Data: []byte("123456")}})
	wantNumber(t, "Write", atomic.Write(d, "f", []byte("12345")), api.ErrFull)
	wantRead(t, d, "f", "123456")
	wantList(t, d, "f", "t")
	wantNumber(t, "Write", atomic.Write(d, "f", []byte("1234")), api.OK)
	wantNumber(t, "Write", atomic.Write(d, "f", []byte("654321")), api.OK)
	wantRead(t, d, "f", "654321")
	wantList(t, d, "f")

	files := make([]api.File, api.MaxFiles)
	for i := range files {
		files[i].Name = fmt.Sprint("n", i)
	}
	d = drive.Load(10, files)
	wantNumber(t, "Write", atomic.Write(d, "n7", []byte("1")), api.ErrMany)
	wantRead(t, d, "n7", "")
	wantNumber(t, "Remove", atomic.Remove(d, "n8"), api.OK)
	wantNumber(t, "Write", atomic.Write(d, "n7", []byte("1")), api.OK)
	wantRead(t, d, "n7", "1")
	wantNumber(t, "Write", atomic.Write(d, "n8", []byte("2")), api.OK)
	wantNumber(t, "Write", atomic.Write(d, "n8", []byte("3")), api.ErrMany)
	wantRead(t, d, "n8", "2")
}

// P13.2: of every answer of both calls: a name that is missing is as good as taken away, whatever else is refused ends it.
func TestRemoveAsksInOrder(t *testing.T) {
	for _, name := range someNames() {
		everyAnswer(2, numbers, func(answers []api.Errno) {
			s := &spy{answers: answers, names: []string{"t", name}}
			asked, want := wordsOfRemove(name, answers)
			wantNumber(t, "Remove", atomic.Remove(s, name), want)
			wantAsked(t, s, asked)
		})
	}
}

// P13.2, of drives: what was taken away stays away; so does what was missing by a change that was not safe.
func TestRemoveIsSafe(t *testing.T) {
	for _, name := range someNames() {
		d := drive.Load(50, []api.File{{Name: name, Data: []byte("x")}, {Name: "t", Data: []byte("left")}, {Name: "other", Data: []byte("one")}})
		w := wound.New(d)
		arm(w, 1, api.FaultIO)
		wantNumber(t, "Remove", atomic.Remove(w, name), api.ErrIO)
		fatalUnless(t, w.Calls() == 2 && d.Pending() == 1, "Calls %d, %d pending", w.Calls(), d.Pending())
		wantList(t, d, "other", "t")
		wantNumber(t, "Remove", atomic.Remove(w, name), api.OK)
		fatalUnless(t, w.Calls() == 4 && d.Pending() == 0, "Calls %d, %d pending", w.Calls(), d.Pending())
		d.Crash(api.Fate{})
		wantList(t, d, "other", "t")
		wantRead(t, d, "other", "one")
		wantRead(t, d, "t", "left")
	}
}

// P13.3: of every answer of every call, whatever the drive tells: in whatever order, twice, none, names that are near.
func TestSweepAsksInOrder(t *testing.T) {
	lists := [][]string{nil, {}, {"t"}, {"f", "t"}, {"t", "f"}, {"z", "t", "a"}, {"t", "t"}, {"", "tt", "T", "t ", "\x00t"}, {"tt", "t", "T"}, {"f"}, {naming.Label, "o61"}, {"a", "b", "c", "d", "e", "f", "t"}}
	for _, names := range lists {
		everyAnswer(3, numbers, func(answers []api.Errno) {
			s := &spy{answers: answers, names: names}
			asked, n, want := wordsOfSweep(names, answers)
			wantSweep(t, s, n, want)
			wantAsked(t, s, asked)
		})
	}
}

// P13.3, of drives: the temporary file alone is taken away, and stays away.
func TestSweepIsSafe(t *testing.T) {
	for _, names := range [][]string{{}, {"t"}, {"f", "g"}, {"T", "f", "t", "tt"}} {
		var files, others []api.File
		for _, name := range names {
			f := api.File{Name: name, Data: []byte("of " + name)}
			files = append(files, f)
			if name != "t" {
				others = append(others, f)
			}
		}
		d := drive.Load(50, files)
		w := wound.New(d)
		gone := len(files) - len(others)
		wantSweep(t, w, gone, api.OK)
		fatalUnless(t, w.Calls() == 2+gone && d.Pending() == 0, "Calls %d, %d pending", w.Calls(), d.Pending())
		for range 2 {
			same := slices.EqualFunc(d.Image(), others, func(a, b api.File) bool { return a.Name == b.Name && bytes.Equal(a.Data, b.Data) })
			fatalUnless(t, same, "of %v Sweep leaves %v", files, d.Image())
			d.Crash(api.Fate{})
		}
		wantSweep(t, w, 0, api.OK)
	}
}

// P13.3: what was taken away by a Sweep that could not make it safe is not counted again by the next one, which makes it so.
func TestSweepBehindARefusedOne(t *testing.T) {
	w := wound.New(drive.Load(9, []api.File{{Name: "t"}}))
	arm(w, 2, api.FaultIO)
	wantSweep(t, w, 0, api.ErrIO)
	fatalUnless(t, len(w.Safe()) == 1 && w.Pending() == 1, "safe %v, %d pending", w.Safe(), w.Pending())
	wantSweep(t, w, 0, api.OK)
	fatalUnless(t, len(w.Safe()) == 0 && w.Pending() == 0, "safe %v, %d pending", w.Safe(), w.Pending())
}

// No name, and the temporary file's: refused, and nothing is called, whatever the drive would answer.
func TestNoName(t *testing.T) {
	for _, name := range []string{"", "t", naming.Temp, strings.Repeat("x", 1025), strings.Repeat("t", 5000), strings.Repeat("é", 513)} {
		for _, answer := range numbers {
			s := &spy{answers: slices.Repeat([]api.Errno{answer}, 5)}
			wantNumber(t, "Write", atomic.Write(s, name, []byte("x")), api.ErrName)
			wantNumber(t, "Write", atomic.Write(s, name, nil), api.ErrName)
			wantNumber(t, "Remove", atomic.Remove(s, name), api.ErrName)
			wantAsked(t, s, nil)
		}
	}
}

// ErrNil comes ahead of ErrName.
func TestNoDrive(t *testing.T) {
	for _, name := range []string{"f", "", "t", strings.Repeat("x", 1025)} {
		wantNumber(t, "Write", atomic.Write(nil, name, nil), api.ErrNil)
		wantNumber(t, "Write", atomic.Write(nil, name, []byte("x")), api.ErrNil)
		wantNumber(t, "Remove", atomic.Remove(nil, name), api.ErrNil)
	}
	wantSweep(t, nil, 0, api.ErrNil)
}

// Pointers that lead to no drive answer ErrNil themselves, and nothing panics.
func TestPointersToNoDrive(t *testing.T) {
	for _, d := range []api.Disk{(*drive.Drive)(nil), (*wound.Wound)(nil), &wound.Wound{}} {
		wantNumber(t, "Write", atomic.Write(d, "f", []byte("x")), api.ErrNil)
		wantNumber(t, "Remove", atomic.Remove(d, "f"), api.ErrNil)
		wantSweep(t, d, 0, api.ErrNil)
	}
}

// Offline and without power each call is refused at the first call of the drive, and nothing is changed.
func TestSilentDrives(t *testing.T) {
	for _, want := range []api.Errno{api.ErrOffline, api.ErrDown} {
		w := wound.New(drive.Load(50, []api.File{{Name: "f", Data: []byte("one")}, {Name: "t"}}))
		w.Offline(want == api.ErrOffline)
		w.Power(want != api.ErrDown)
		wantNumber(t, "Write", atomic.Write(w, "f", []byte("x")), want)
		wantNumber(t, "Remove", atomic.Remove(w, "f"), want)
		wantSweep(t, w, 0, want)
		wantNumber(t, "Write", atomic.Write(w, "t", []byte("x")), api.ErrName)
		fatalUnless(t, w.Calls() == 0 && w.Pending() == 0 && len(w.Image()) == 2, "Calls %d, %d pending, %v", w.Calls(), w.Pending(), w.Image())
		w.Offline(false)
		w.Power(true)
		wantRead(t, w, "f", "one")
	}
}

// The numbers of the chapter's errors, and the temporary file's name.
func TestErrors(t *testing.T) {
	got := []api.Errno{api.OK, api.ErrNil, api.ErrName, api.ErrMissing}
	fatalUnless(t, slices.Equal(got, []api.Errno{0, 1, 91, 110}), "the errors are %v", got)
	fatalUnless(t, naming.Temp == "t" && api.MaxName == 1024, "%q, %d", naming.Temp, api.MaxName)
}

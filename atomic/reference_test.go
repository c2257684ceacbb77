package atomic_test

import (
	"fmt"
	"math/rand"
	"slices"
	"testing"

	"cairn/api"
	"cairn/atomic"
	"cairn/drive"
	"cairn/wound"
)

var (
	_ api.Disk = (*spy)(nil)
	_ api.Disk = (*world)(nil)
)

// spy is a drive that writes down what it is asked, and answers as it was told to.
type spy struct {
	answers []api.Errno // of its calls, one behind the other; OK behind the last of them
	names   []string    // what List tells, beside whatever number
	asked   []string
}

func (s *spy) ask(says string, args ...any) api.Errno {
	i := len(s.asked)
	s.asked = append(s.asked, fmt.Sprintf(says, args...))
	if i < len(s.answers) {
		return s.answers[i]
	}
	return 0
}

func (s *spy) Create(name string) api.Errno              { return s.ask("Create %q", name) }
func (s *spy) Append(name string, data []byte) api.Errno { return s.ask("Append %q %q", name, data) }
func (s *spy) Sync(name string) api.Errno                { return s.ask("Sync %q", name) }
func (s *spy) Rename(old, to string) api.Errno           { return s.ask("Rename %q %q", old, to) }
func (s *spy) Remove(name string) api.Errno              { return s.ask("Remove %q", name) }
func (s *spy) SyncDir() api.Errno                        { return s.ask("SyncDir") }
func (s *spy) Read(name string) ([]byte, api.Errno)      { return []byte("read"), s.ask("Read %q", name) }
func (s *spy) List() ([]string, api.Errno)               { return s.names, s.ask("List") }
func (s *spy) Struck() bool                              { return s.ask("Struck") != 0 }
func (s *spy) Rest(off bool)                             { s.ask("Rest %v", off) }

// wordsOfWrite is P13.1 in its words: what a drive of these answers is asked, and what comes of it.
func wordsOfWrite(name, data string, answers []api.Errno) (asked []string, err api.Errno) {
	for i, call := range []string{`Create "t"`, fmt.Sprintf(`Append "t" %q`, data), `Sync "t"`, fmt.Sprintf(`Rename "t" %q`, name), `SyncDir`} {
		asked = append(asked, call)
		if answers[i] != 0 {
			return asked, answers[i]
		}
	}
	return asked, 0
}

// wordsOfRemove is P13.2 in its words.
func wordsOfRemove(name string, answers []api.Errno) (asked []string, err api.Errno) {
	asked = []string{fmt.Sprintf("Remove %q", name)}
	if answers[0] != 0 && answers[0] != 110 {
		return asked, answers[0]
	}
	return append(asked, "SyncDir"), answers[1]
}

// wordsOfSweep is P13.3 in its words.
func wordsOfSweep(names []string, answers []api.Errno) (asked []string, n int, err api.Errno) {
	calls := []string{"List", "SyncDir"}
	for _, name := range names {
		if name == "t" {
			calls, n = []string{"List", `Remove "t"`, "SyncDir"}, 1
		}
	}
	for i, call := range calls {
		asked = append(asked, call)
		if answers[i] != 0 {
			return asked, 0, answers[i]
		}
	}
	return asked, n, 0
}

// world is a wound on which nothing is done but by the chapter's calls, and of each name what it may come to: P13.4's words.
type world struct {
	*wound.Wound
	may     map[string][]string
	renamed bool // a Rename was answered OK since this was last made false
	swept   bool // a Sweep was answered OK, and no Write has called the drive since
	behind  []deed
	seen    map[string]int // how often what happened, so that a test can ask whether enough did
}

func newWorld(d *drive.Drive) *world {
	w := &world{Wound: wound.New(d), may: map[string][]string{}, seen: map[string]int{}}
	for _, f := range d.Image() {
		w.may[f.Name] = []string{w.has(f.Name)}
	}
	return w
}

func (w *world) Rename(old, to string) api.Errno {
	err := w.Wound.Rename(old, to)
	w.renamed = w.renamed || err == 0
	return err
}

// has is what a name has, as a text.
func (w *world) has(name string) string {
	for _, f := range w.Image() {
		if f.Name == name {
			return fmt.Sprintf("%q", f.Data)
		}
	}
	return "none"
}

// mayCome is what a name may come to; of one that nothing was done to, none alone.
func (w *world) mayCome(name string) []string {
	if w.may[name] == nil {
		return []string{"none"}
	}
	return w.may[name]
}

// turn says what the name may come to behind a call that would make it this.
func (w *world) turn(name, to string, err api.Errno) {
	if err == 0 {
		w.may[name] = []string{to}
	} else {
		w.may[name] = append(slices.Clone(w.mayCome(name)), to)
	}
}

// besides is all names but the temporary file's and these, with what they have.
func (w *world) besides(names ...string) string {
	text := ""
	for _, f := range w.Image() {
		if f.Name != "t" && !slices.Contains(names, f.Name) {
			text += fmt.Sprintf("%q:%q ", f.Name, f.Data)
		}
	}
	return text
}

// check holds the names against what they may come to.
func (w *world) check(t *testing.T) {
	t.Helper()
	for _, f := range w.Image() {
		if f.Name != "t" && w.may[f.Name] == nil {
			t.Fatalf("the name %q is there; behind %v", f.Name, w.behind)
		}
	}
	for name, things := range w.may {
		if name != "t" && !slices.Contains(things, w.has(name)) {
			t.Fatalf("%q has %s, and may come to %v; behind %v", name, w.has(name), things, w.behind)
		}
	}
	if w.swept && w.has("t") != "none" {
		t.Fatalf("the temporary file is there; behind %v", w.behind)
	}
}

// deed is a call of the chapter, or what strikes its drive.
type deed struct {
	says string
	do   func(t *testing.T, w *world)
}

func (d deed) String() string { return "(" + d.says + ")" }

// play makes the deeds, and looks behind each of them whether the promises hold.
func (w *world) play(t *testing.T, deeds ...deed) {
	t.Helper()
	for _, d := range deeds {
		w.behind = append(w.behind, d)
		d.do(t, w)
		w.check(t)
	}
}

func write(name, data string) deed {
	return deed{fmt.Sprintf("Write %q %q", name, data), func(t *testing.T, w *world) {
		t.Helper()
		all, others, calls := w.besides(), w.besides(name), w.Calls()
		w.renamed = false
		err := atomic.Write(w, name, []byte(data))
		w.swept = w.swept && w.Calls() == calls
		w.turn(name, fmt.Sprintf("%q", data), err)
		if !w.renamed && w.besides() != all || w.besides(name) != others {
			t.Fatalf("Write = %d, Rename was OK: %v, makes of %s %s; behind %v", err, w.renamed, all, w.besides(), w.behind)
		}
		if err == 0 && !w.renamed {
			t.Fatalf("Write is OK without a Rename; behind %v", w.behind)
		}
		w.seen[fmt.Sprintf("Write %d renamed %v", err, w.renamed)]++
	}}
}

func remove(name string) deed {
	return deed{fmt.Sprintf("Remove %q", name), func(t *testing.T, w *world) {
		t.Helper()
		others := w.besides(name)
		err := atomic.Remove(w, name)
		w.turn(name, "none", err)
		if w.besides(name) != others {
			t.Fatalf("Remove = %d makes of %s %s; behind %v", err, others, w.besides(name), w.behind)
		}
		w.seen[fmt.Sprintf("Remove %d there %v", err, w.has(name) != "none")]++
	}}
}

func sweep() deed {
	return deed{"Sweep", func(t *testing.T, w *world) {
		t.Helper()
		all, there := w.besides(), w.has("t") != "none"
		n, err := atomic.Sweep(w)
		if w.besides() != all || err != 0 && n != 0 || err == 0 && (n == 1) != there {
			t.Fatalf("Sweep = %d, %d makes of %s %s; behind %v", n, err, all, w.besides(), w.behind)
		}
		w.swept = w.swept || err == 0
		w.seen[fmt.Sprintf("Sweep %d %d", n, err)]++
	}}
}

// lose is a loss of power with that fate, and the power's return.
func lose(f api.Fate) deed {
	return deed{fmt.Sprintf("lose %v", f), func(t *testing.T, w *world) {
		t.Helper()
		w.Rest(true)
		was := w.besides()
		w.Crash(f)
		w.Power(true)
		w.check(t)
		if w.besides() != was {
			w.seen["lost"]++
		}
		if w.has("t") != "none" {
			w.seen["temporary file kept"]++
		}
		for name := range w.may {
			w.may[name] = []string{w.has(name)}
		}
	}}
}

// still is what strikes the drive and answers nothing.
func still(do func(w *world), says string, args ...any) deed {
	return deed{fmt.Sprintf(says, args...), func(_ *testing.T, w *world) { do(w) }}
}

// refuse makes the call of this number from now on a refused one.
func refuse(at, kind int) deed {
	return still(func(w *world) { w.Arm([]api.Fault{{At: at, Kind: kind}}) }, "refuse %d %d", at, kind)
}

// burn lets the power go ahead of the call of this number from now on.
func burn(call, inside int) deed {
	return still(func(w *world) { w.Rest(false); w.Fuse(0, call, inside) }, "burn %d %d", call, inside)
}

func offline(off bool) deed {
	return still(func(w *world) { w.Offline(off) }, "offline %v", off)
}

// power brings the power back, or takes it, while nothing is lost.
func power(on bool) deed {
	return still(func(w *world) { w.Power(on) }, "power %v", on)
}

// fates are all there are for so many changes of names, with some cuts of bytes.
func fates(pending int) []api.Fate {
	var all []api.Fate
	for kept := range 1 << pending {
		dirs := make([]bool, pending)
		for i := range dirs {
			dirs[i] = kept>>i&1 == 1
		}
		for _, cut := range []int{0, 1, 99} {
			all = append(all, api.Fate{Dirs: dirs, Cuts: slices.Repeat([]int{cut}, 9)})
		}
	}
	return all
}

func source(seed int64) *rand.Rand { return rand.New(rand.NewSource(seed)) }

// pick is one of the list.
func pick[E any](r *rand.Rand, l ...E) E { return l[r.Intn(len(l))] }

func someText(r *rand.Rand, n int) string {
	b := make([]byte, n)
	r.Read(b)
	return string(b)
}

func someFate(r *rand.Rand) api.Fate {
	f := api.Fate{Dirs: make([]bool, r.Intn(12)), Cuts: make([]int, r.Intn(6))}
	for i := range f.Dirs {
		f.Dirs[i] = r.Intn(2) == 0
	}
	for i := range f.Cuts {
		f.Cuts[i] = pick(r, 0, 1, 2, 5, 99, -1)
	}
	return f
}

// someDeed is any of all there are.
func someDeed(r *rand.Rand, names []string) deed {
	switch r.Intn(20) {
	case 0, 1, 2, 3, 4, 5, 6:
		return write(pick(r, names...), someText(r, pick(r, 0, 1, 2, 3, 8, 20)))
	case 7, 8, 9:
		return remove(pick(r, names...))
	case 10, 11:
		return sweep()
	case 12, 13, 14:
		return refuse(r.Intn(8), pick(r, api.FaultIO, api.FaultIO, api.FaultFull))
	case 15:
		return burn(r.Intn(7), pick(r, -1, 0, 1, 2, 9, 99))
	case 16:
		return offline(r.Intn(3) == 0)
	case 17:
		return power(r.Intn(3) != 0)
	}
	return lose(someFate(r))
}

package drive_test

import (
	"fmt"
	"math/rand"
	"slices"
	"strings"
	"testing"

	"cairn/api"
	"cairn/drive"
)

// startFiles are none, or some of the names that are used here.
func startFiles(r *rand.Rand, names []string) []api.File {
	var files []api.File
	for _, name := range names {
		if !noName(name) && r.Intn(3) == 0 {
			files = append(files, file(name, someText(r, r.Intn(9))))
		}
	}
	return files
}

// P11.1 to P11.10: long runs of all calls against the chapter's words, with all that can be told behind each of them.
func TestLongRuns(t *testing.T) {
	r := source(110)
	long := strings.Repeat("x", 1024)
	pools := [][]string{{"a", "b"}, {"a", "b", "c", "d"}, {"a", "b", "c", "", long, long + "x"}, {"a", "aa", "\x00", "\xff", "b", "c", "d", "e", "f", "g"}}
	for range 1500 {
		names := pick(r, pools...)
		room := pick(r, 0, 3, 20, 60, 1000)
		var files []api.File
		if r.Intn(2) == 0 {
			files = startFiles(r, names)
		}
		var d device = drive.Load(room, files)
		if len(files) == 0 {
			d = pick[device](r, d, drive.New(room))
		}
		m := loadModel(room, files)
		var behind []step
		sameState(t, d, m, behind)
		for range 80 {
			s := someStep(r, m, names)
			sameAnswer(t, d, m, s, behind)
			behind = append(behind, s)
			sameState(t, d, m, behind)
		}
	}
}

// allFates are those of so many changes, and of cuts of 0, 1 and all bytes of so many names.
func allFates(changes, names int) []api.Fate {
	fates := []api.Fate{{}}
	for range changes {
		var more []api.Fate
		for _, f := range fates {
			for _, kept := range []bool{false, true} {
				more = append(more, api.Fate{Dirs: append(slices.Clone(f.Dirs), kept)})
			}
		}
		fates = more
	}
	for range names {
		var more []api.Fate
		for _, f := range fates {
			for _, c := range []int{0, 1, 99} {
				more = append(more, api.Fate{Dirs: f.Dirs, Cuts: append(slices.Clone(f.Cuts), c)})
			}
		}
		fates = more
	}
	return fates
}

// shortStart is a drive on which a has a safe byte and a loose one.
func shortStart(d device) device {
	d.Append("a", []byte("L"))
	return d
}

func shortFiles() []api.File { return []api.File{file("a", "S")} }

func shortDrive() device { return shortStart(drive.Load(9, shortFiles())) }

func shortModel() device { return shortStart(loadModel(9, shortFiles())) }

// shortSteps are the changes of two names and of their bytes.
func shortSteps() []step {
	return []step{create("a"), create("b"), appendTo("a", "12"), appendTo("b", "3"), syncFile("a"), syncFile("b"), rename("a", "b"), rename("b", "a"), remove("a"), remove("b"), syncDir(), cut("a", 1), flip("b", 0, 3)}
}

func do(d device, steps []step) device {
	for _, s := range steps {
		s.do(d)
	}
	return d
}

// P11.9: every short run of changes, with every fate behind it.
func TestEveryFateOfEveryShortRun(t *testing.T) {
	runs := [][]step{nil}
	for range 3 {
		var longer [][]step
		for _, run := range runs {
			for _, s := range shortSteps() {
				longer = append(longer, append(slices.Clone(run), s))
			}
		}
		runs = longer
		for _, run := range runs {
			for _, f := range allFates(do(shortModel(), run).Pending(), 2) {
				d, m := do(shortDrive(), run), do(shortModel(), run)
				sameAnswer(t, d, m, crash(f), run)
				for _, s := range []step{image(), safe(), used(), pending()} {
					sameAnswer(t, d, m, s, append(slices.Clone(run), crash(f)))
				}
			}
		}
	}
}

// P11.13: a file whose bytes and name were made safe is there behind every loss of power, whatever was done to others.
func TestWhatWasMadeSafeStays(t *testing.T) {
	r := source(111)
	for range 3000 {
		d := drive.New(500)
		for range r.Intn(10) {
			someStep(r, d, []string{"a", "b", "keep", "z"}).do(d)
		}
		want := someText(r, r.Intn(20))
		steps := pick(r, []step{create("keep"), appendTo("keep", want), syncFile("keep"), syncDir()},
			[]step{create("t"), appendTo("t", want), syncFile("t"), rename("t", "keep"), syncDir()},
			[]step{create("keep"), appendTo("keep", want+"more"), syncDir(), syncFile("keep"), cut("keep", len(want)), syncDir()})
		ok(t, d, steps...)
		var behind []step
		for range 3 {
			for range r.Intn(25) {
				s := someStep(r, d, []string{"a", "b", "c", "z"})
				if s.says == "Wipe" {
					continue
				}
				s.do(d)
				behind = append(behind, s)
			}
			s := pick(r, crash(someFate(r, d.Pending(), 5)), syncFile("keep"))
			s.do(d)
			behind = append(behind, s)
			got, err := d.Read("keep")
			fatalUnless(t, err == api.OK && string(got) == want, "keep has %q, %d, not %q; behind %v", got, err, want, behind)
		}
	}
}

// P11.14: a Crash of a drive on which nothing is pending and nothing loose changes nothing, nor does a second one.
func TestCrashOfWhatIsSafe(t *testing.T) {
	r := source(112)
	for range 2000 {
		names := []string{"a", "b", "c", "d"}
		d := drive.Load(200, startFiles(r, names))
		for range r.Intn(30) {
			someStep(r, d, names).do(d)
		}
		if r.Intn(2) == 0 {
			for _, name := range names {
				d.Sync(name)
			}
			d.SyncDir()
		} else {
			d.Crash(someFate(r, d.Pending(), 4))
		}
		want, room := filesAsText(d.Image()), d.Used()
		for range 2 {
			ok(t, d, crash(someFate(r, 3, 4)))
			play(t, d, []step{image(), safe(), used(), pending()}, want, want, fmt.Sprint(room), "0")
		}
	}
}

// track is what the test itself knows of a body.
type track struct {
	safe, loose string
}

// P11.14: what stands behind a Crash is the safe bytes and a beginning of the loose ones of a body to which its name led since the names were last made safe.
func TestNothingComesFromNowhere(t *testing.T) {
	r := source(113)
	names := []string{"a", "b", "c"}
	for range 4000 {
		d := drive.New(1 << 20)
		stands := map[string]*track{}
		led := map[string][]*track{}
		for i := range r.Intn(25) {
			name, to := pick(r, names...), pick(r, names...)
			of := stands[name]
			if of == nil {
				d.Create(name)
				stands[name] = &track{}
				led[name] = append(led[name], stands[name])
				continue
			}
			switch r.Intn(7) {
			case 0, 1, 2:
				text := fmt.Sprintf("%d,", i)
				d.Append(name, []byte(text))
				of.loose += text
			case 3:
				d.Sync(name)
				of.safe, of.loose = of.safe+of.loose, ""
			case 4:
				d.Rename(name, to)
				delete(stands, name)
				stands[to] = of
				led[to] = append(led[to], of)
			case 5:
				d.Remove(name)
				delete(stands, name)
			case 6:
				if r.Intn(3) == 0 {
					d.SyncDir()
					led = map[string][]*track{}
					for name, of := range stands {
						led[name] = []*track{of}
					}
				}
			}
		}
		d.Crash(someFate(r, d.Pending(), 3))
		for _, f := range d.Image() {
			is := slices.ContainsFunc(led[f.Name], func(of *track) bool {
				behind, is := strings.CutPrefix(string(f.Data), of.safe)
				return is && strings.HasPrefix(of.loose, behind)
			})
			fatalUnless(t, is, "%s has %q", f.Name, f.Data)
		}
	}
}

// keepAll is the fate that keeps all.
func keepAll(changes, names int) api.Fate {
	return api.Fate{Dirs: slices.Repeat([]bool{true}, changes), Cuts: slices.Repeat([]int{1 << 30}, names)}
}

// P11.15: a Crash that keeps all leaves what stands, one that keeps nothing what Safe says.
func TestCrashThatKeepsAllOrNothing(t *testing.T) {
	names := []string{"a", "b", "c", "d", "e"}
	for seed := range int64(1500) {
		begin := func() *drive.Drive {
			r := source(seed)
			d := drive.Load(90, startFiles(r, names))
			for range r.Intn(40) {
				someStep(r, d, names).do(d)
			}
			return d
		}
		d := begin()
		want, size := filesAsText(d.Image()), fmt.Sprint(d.Used())
		ok(t, d, crash(keepAll(d.Pending(), 5)))
		play(t, d, []step{image(), safe(), used()}, want, want, size)
		for _, f := range []api.Fate{{}, {Dirs: make([]bool, 9), Cuts: []int{0, -5, 0, -1}}} {
			d = begin()
			want = filesAsText(d.Safe())
			ok(t, d, crash(f))
			play(t, d, []step{image(), safe()}, want, want)
		}
	}
}

// fileOf tells what a name has: a text that says, too, that it is not there.
func fileOf(d device, name string) string { return read(name).do(d) }

// P11.15: of a file that is written under another name and renamed, the name has the new bytes, or what a Crash ahead of it could have left.
func TestBetweenOldAndNew(t *testing.T) {
	writing := []step{create("t"), appendTo("t", "ne"), appendTo("t", "w"), syncFile("t"), rename("t", "a"), syncDir()}
	news := 0
	for seed := range int64(300) {
		r := source(seed)
		files := startFiles(r, []string{"a", "b"})
		var earlier []step
		for range r.Intn(6) {
			earlier = append(earlier, someStep(r, newModel(0), []string{"a", "b"}))
		}
		begin := func() *drive.Drive {
			d := drive.Load(60, files)
			do(d, earlier)
			return d
		}
		early := begin().Pending()
		for steps := range len(writing) + 1 {
			d := begin()
			ok(t, d, writing[:steps]...)
			for _, f := range allFates(min(d.Pending(), 6), 3) {
				d := begin()
				ok(t, d, writing[:steps]...)
				ok(t, d, crash(f))
				got := fileOf(d, "a")
				if got == `"new" 0` {
					news++
					fatalUnless(t, steps >= 5, "new bytes behind %v", writing[:steps])
					continue
				}
				fatalUnless(t, steps < 6 && couldBe(begin, f.Dirs[:min(early, len(f.Dirs))], got), "a has %s behind %v and %v", got, writing[:steps], f)
			}
		}
	}
	fatalUnless(t, news > 1000, "the new bytes were there only %d times", news)
}

// couldBe tells whether a Crash that keeps these changes could leave that of the name a.
func couldBe(begin func() *drive.Drive, dirs []bool, want string) bool {
	for _, c := range []int{0, 1, 99} { // those of allFates
		d := begin()
		d.Crash(api.Fate{Dirs: dirs, Cuts: []int{c, c, c}})
		if fileOf(d, "a") == want {
			return true
		}
	}
	return false
}

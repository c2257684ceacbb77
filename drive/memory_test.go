package drive_test

import (
	"fmt"
	"math"
	"runtime"
	"slices"
	"sync"
	"testing"
	"time"
	"unsafe"

	"cairn/api"
	"cairn/drive"
)

// overwrite fills a list and the room behind it.
func overwrite[E any](l []E, with E) {
	l = l[:cap(l)]
	for i := range l {
		l[i] = with
	}
}

// roomy is the list with its owner's things behind it, and all of it.
func roomy[E any](l []E, behind E) (list, all []E) {
	all = append(slices.Clone(l), slices.Repeat([]E{behind}, 9)...)
	return all[:len(l)], all
}

// P11.16: bytes that are handed in, and the room behind them, stay as they were, whatever is done to the file; and the file stays as it is, whatever becomes of them.
func TestBytesAreNotKept(t *testing.T) {
	d := drive.New(99)
	ok(t, d, create("a"))
	data, all := roomy([]byte("hello"), 'r')
	pattern, patternAll := roomy([]byte{1, 2, 4}, 8)
	fatalUnless(t, d.Append("a", data) == api.OK && d.Append("a", data) == api.OK, "Append is refused")
	fatalUnless(t, d.Flip("a", 1, pattern) == api.OK, "Flip is refused")
	ok(t, d, flip("a", 0, 255, 255), appendTo("a", "x"), cut("a", 3), appendTo("a", "yyyyyyy"), syncFile("a"), syncDir(), crash(api.Fate{}))
	fatalUnless(t, string(all) == "hellorrrrrrrrr", "the bytes became %q", all)
	fatalUnless(t, slices.Equal(patternAll, []byte{1, 2, 4, 8, 8, 8, 8, 8, 8, 8, 8, 8}), "the pattern became %v", patternAll)
	want := filesAsText(d.Image())
	overwrite(all, 'z')
	overwrite(patternAll, 99)
	play(t, d, []step{image(), safe()}, want, want)
}

// P11.16: so it is with the files of Load: the list, each file's bytes, the room behind all of them.
func TestFilesAreNotKept(t *testing.T) {
	one, oneAll := roomy([]byte("one"), 'r')
	two, twoAll := roomy([]byte("two"), 's')
	files, all := roomy([]api.File{{Name: "b", Data: one}, {Name: "a", Data: two}}, file("behind", "x"))
	d := drive.Load(99, files)
	d.Append("b", []byte("123"))
	d.Flip("a", 0, []byte{255})
	d.Cut("a", 1)
	fatalUnless(t, string(oneAll) == "onerrrrrrrrr" && string(twoAll) == "twosssssssss", "the bytes became %q, %q", oneAll, twoAll)
	for i, want := range append([]string{"b", "a"}, slices.Repeat([]string{"behind"}, 9)...) {
		fatalUnless(t, all[i].Name == want, "the file %d is %v", i, all[i])
	}
	image, safe := filesAsText(d.Image()), filesAsText(d.Safe())
	overwrite(oneAll, 'z')
	overwrite(twoAll, 'z')
	overwrite(all, file("z", "z"))
	fatalUnless(t, filesAsText(d.Image()) == image && filesAsText(d.Safe()) == safe, "the drive became %s", filesAsText(d.Image()))
}

// P11.16: two files of one list of bytes are each its own.
func TestFilesOfOneList(t *testing.T) {
	data := []byte("one")
	d := drive.Load(99, []api.File{{Name: "a", Data: data}, {Name: "b", Data: data}, {Name: "c", Data: data[:2]}})
	ok(t, d, flip("a", 0, 1), appendTo("c", "xyz"), cut("b", 1))
	play(t, d, []step{image()}, `"a":"nne" "b":"o" "c":"onxyz" `)
	fatalUnless(t, string(data) == "one", "the bytes became %q", data)
}

// P11.16: a fate is neither changed nor kept, and the room behind its lists is not read.
func TestFatesAreNotKept(t *testing.T) {
	d := drive.New(99)
	ok(t, d, create("a"), create("b"), appendTo("a", "12"), appendTo("b", "34"))
	dirs, dirsAll := roomy([]bool{true}, true)
	cuts, cutsAll := roomy([]int{-1}, 9)
	fatalUnless(t, d.Crash(api.Fate{Dirs: dirs, Cuts: cuts}) == api.OK, "Crash is refused")
	play(t, d, []step{image()}, `"a":"" `)
	fatalUnless(t, slices.Equal(dirsAll, slices.Repeat([]bool{true}, 10)), "Dirs became %v", dirsAll)
	fatalUnless(t, slices.Equal(cutsAll, append([]int{-1}, slices.Repeat([]int{9}, 9)...)), "Cuts became %v", cutsAll)
	ok(t, d, appendTo("a", "5"))
	overwrite(cutsAll, 5)
	play(t, d, []step{image(), safe()}, `"a":"5" `, `"a":"" `)
}

// P11.16: texts are not kept either: what stands does not hang on the memory that a name had.
func TestTextsAreNotKept(t *testing.T) {
	var held [][]byte
	text := func(of string) string {
		b := []byte(of)
		held = append(held, b)
		return unsafe.String(&b[0], len(b))
	}
	d := drive.Load(99, []api.File{{Name: text("loaded")}, {Name: text("gone")}, {Name: text("moved")}})
	d.Create(text("created"))
	d.Create(text("loaded"))
	d.Rename(text("moved"), text("to"))
	d.Remove(text("gone"))
	for _, b := range held {
		overwrite(b, '!')
	}
	play(t, d, []step{list(), safe()}, `["created" "loaded" "to"] 0`, `"gone":"" "loaded":"" "moved":"" `)
	ok(t, d, crash(api.Fate{Dirs: []bool{true, true, true, true}}))
	play(t, d, []step{list()}, `["created" "loaded" "to"] 0`)
	ok(t, d, appendTo("loaded", "1"), remove("created"), rename("to", "moved"))
}

// answers are all lists that a drive tells.
type answers struct {
	bytes       []byte
	names       []string
	image, safe []api.File
}

func ask(d *drive.Drive) answers {
	b, _ := d.Read("a")
	l, _ := d.List()
	return answers{b, l, d.Image(), d.Safe()}
}

func (a answers) text() string {
	return fmt.Sprintf("%q %q %s %s", a.bytes, a.names, filesAsText(a.image), filesAsText(a.safe))
}

func (a answers) spoil() {
	for _, files := range [][]api.File{a.image, a.safe} {
		for _, f := range files {
			overwrite(f.Data, 'z')
		}
		overwrite(files, file("z", "z"))
	}
	overwrite(a.bytes, 'z')
	overwrite(a.names, "z")
}

// P11.16: answers are new memory: the drive stays as it is, whatever becomes of them, and they stay, whatever becomes of the drive and of each other.
func TestAnswersShareNoMemory(t *testing.T) {
	d := drive.New(99)
	ok(t, d, create("a"), appendTo("a", "one"), syncFile("a"), create("b"), appendTo("b", "twotwo"), syncDir(), appendTo("a", "loose"))
	first := ask(d)
	want := first.text()
	ask(d).spoil()
	second := ask(d)
	fatalUnless(t, first.text() == want && second.text() == want, "the answers became %s, %s, not %s", first.text(), second.text(), want)
	ok(t, d, flip("a", 0, 255, 255, 255, 255), cut("a", 4), appendTo("a", "other bytes"), syncFile("a"), remove("b"), create("c"), syncDir(), crash(api.Fate{}), wipe())
	fatalUnless(t, first.text() == want && second.text() == want, "the answers became %s, %s, not %s", first.text(), second.text(), want)
}

// P11.16: no two lists of one answer share any, the room behind them neither.
func TestListsOfOneAnswer(t *testing.T) {
	d := drive.New(99)
	ok(t, d, create("a"), create("b"), create("c"), appendTo("a", "1"), appendTo("b", "2"), appendTo("c", "3"), syncFile("a"), syncFile("b"), syncFile("c"), rename("a", "d"), syncDir())
	for _, files := range [][]api.File{d.Image(), d.Safe()} {
		for i := range files {
			overwrite(files[i].Data, byte('x'+i))
		}
		fatalUnless(t, filesAsText(files) == `"b":"x" "c":"y" "d":"z" `, "the files became %s", filesAsText(files))
	}
}

// P11.8: what is told changes nothing, so it can be asked by many at once; a zero value, too.
func TestManyAskAtOnce(t *testing.T) {
	loaded := drive.Load(99, []api.File{file("a", "xyz"), file("b", "12")})
	ok(t, loaded, rename("b", "c"), appendTo("c", "3"))
	for _, d := range []*drive.Drive{loaded, {}} {
		want := ask(d).text()
		var group sync.WaitGroup
		for range 8 {
			group.Go(func() {
				for range 200 {
					d.Loose("a")
					if got := ask(d).text(); got != want || d.Pending() > 1 {
						t.Errorf("beside others it tells %s, not %s", got, want)
					}
				}
			})
		}
		group.Wait()
	}
}

// W0: whatever is handed in, in whatever state, a call ends and does not panic.
func TestEveryCallEnds(t *testing.T) {
	r := source(114)
	numbers := []int{math.MinInt, -1, 0, 1, 2, 3, 1 << 30, 1<<30 + 1, math.MaxInt - 1, math.MaxInt}
	for range 300 {
		d := pick(r, nil, &drive.Drive{}, drive.New(9), drive.Load(pick(r, numbers...), []api.File{file("a", "1"), file("b", "")}))
		for range 100 {
			name, to, n := pick(r, "a", "b", "", "c", someText(r, 1030)), pick(r, "a", "b", "", "c"), pick(r, numbers...)
			f := api.Fate{Dirs: make([]bool, r.Intn(5)), Cuts: []int{pick(r, numbers...), pick(r, numbers...)}}
			pick(r, create(name), appendTo(name, someText(r, r.Intn(9))), syncFile(name), rename(name, to), remove(name), syncDir(), read(name), list(), used(), pending(), loose(name), crash(f), image(), safe(), flip(name, n, 1, 2), flip(name, n), cut(name, n), wipe()).do(d)
		}
	}
}

// W0: with as many names as may be, no call of one name goes over all of them.
func TestManyNamesEndSoon(t *testing.T) {
	began := time.Now()
	d := drive.New(api.MaxRoom)
	name := func(i int) string { return fmt.Sprint("n", i) }
	for i := range api.MaxFiles {
		d.Create(name(i))
		d.Append(name(i), []byte("some bytes"))
		d.Sync(name(i))
		d.SyncDir()
	}
	for i := range api.MaxFiles {
		d.Rename(name(i), "other")
		d.Rename("other", name(i))
		d.Flip(name(i), 1, []byte{1})
		d.Cut(name(i), 9)
		d.SyncDir()
		if i%4 == 0 {
			d.Remove(name(i))
		}
	}
	fatalUnless(t, d.Used() == 9*api.MaxFiles*3/4 && d.Pending() == 0, "Used %d, Pending %d", d.Used(), d.Pending())
	ok(t, d, crash(api.Fate{}))
	if took := time.Since(began); took > 20*time.Second {
		t.Errorf("it took %v", took)
	}
}

// heap is how many bytes are held.
func heap() int {
	runtime.GC()
	var s runtime.MemStats
	runtime.ReadMemStats(&s)
	return int(s.HeapAlloc)
}

// A drive holds no more than its promises need: what no loss of power can bring back is let go.
func TestWhatIsGoneIsLetGo(t *testing.T) {
	const much = 1 << 26
	great := make([]byte, much)
	rows := []struct {
		says  string
		named bool // was the name made safe ahead of all?
		gone  []step
	}{
		{"Remove and SyncDir", true, []step{remove("a"), syncDir()}},
		{"Remove and SyncDir, of a new name", false, []step{remove("a"), syncDir()}},
		{"Create and SyncDir", true, []step{create("a"), syncDir()}},
		{"Rename and SyncDir", true, []step{create("b"), rename("b", "a"), syncDir()}},
		{"Remove and Crash", true, []step{remove("a"), crash(api.Fate{Dirs: []bool{true}})}},
		{"Rename and Crash, of a new name", false, []step{rename("a", "b"), crash(api.Fate{})}},
		{"Wipe", true, []step{wipe()}},
		{"Wipe, of a new name", false, []step{wipe()}},
	}
	for _, row := range rows {
		before := heap()
		d := drive.New(1 << 28)
		ok(t, d, create("a"))
		if row.named {
			ok(t, d, syncDir())
		}
		fatalUnless(t, d.Append("a", great) == api.OK, "Append is refused")
		fatalUnless(t, heap()-before > much/2, "%s: the bytes are not held ahead of it", row.says)
		ok(t, d, row.gone...)
		fatalUnless(t, heap()-before < much/2, "%s: %d bytes are held", row.says, heap()-before)
		runtime.KeepAlive(d)
	}
	runtime.KeepAlive(great)
}

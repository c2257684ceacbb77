package drive_test

import (
	"bytes"
	"fmt"
	"math"
	"slices"
	"strings"
	"testing"

	"cairn/api"
	"cairn/drive"
)

func fatalUnless(t *testing.T, is bool, says string, args ...any) {
	t.Helper()
	if !is {
		t.Fatalf(says, args...)
	}
}

// play makes the steps one behind the other and looks at their answers, one text a step, in which each number stands for itself.
func play(t *testing.T, d device, steps []step, want ...string) {
	t.Helper()
	fatalUnless(t, len(steps) == len(want), "%d steps, %d answers", len(steps), len(want))
	for i, s := range steps {
		if got := s.do(d); got != want[i] {
			t.Errorf("%v = %s, not %s; behind %v", s, got, want[i], steps[:i])
		}
	}
}

// ok makes the steps, each of which is to be answered OK.
func ok(t *testing.T, d device, steps ...step) {
	t.Helper()
	play(t, d, steps, slices.Repeat([]string{"0"}, len(steps))...)
}

func file(name, data string) api.File { return api.File{Name: name, Data: []byte(data)} }

// P11.1: the chapter's example and the edges beside it.
func TestNewRooms(t *testing.T) {
	for _, room := range []int{-1, 1073741825, math.MinInt, math.MaxInt} {
		fatalUnless(t, drive.New(room) == nil, "New(%d) is there", room)
		fatalUnless(t, drive.Load(room, nil) == nil, "Load(%d, nothing) is there", room)
		fatalUnless(t, drive.Load(room, []api.File{file("a", "x")}) == nil, "Load(%d, a) is there", room)
	}
	for _, room := range []int{0, 1, 10, 1073741824} {
		fatalUnless(t, drive.New(room) != nil, "New(%d) is nil", room)
		sameState(t, drive.New(room), newModel(room), nil)
		fatalUnless(t, drive.Load(room, nil) != nil, "Load(%d, nothing) is nil", room)
		sameState(t, drive.Load(room, nil), newModel(room), nil)
	}
	fatalUnless(t, drive.New(3) != drive.New(3), "New answers one drive twice")
}

// The examples' second to fourth row.
func TestExampleOfWhatIsSafe(t *testing.T) {
	d := drive.New(10)
	play(t, d, []step{create("a"), appendTo("a", "hello"), appendTo("a", " there"), used(), loose("a")}, "0", "0", "111", "5", "5 0")
	play(t, d, []step{syncFile("a"), loose("a"), pending(), safe()}, "0", "0 0", "1", "")
	play(t, d, []step{crash(api.Fate{}), list()}, "0", "[] 0")
}

// The examples' fifth to eighth row.
func TestExampleOfLossesOfPower(t *testing.T) {
	d := drive.New(10)
	ok(t, d, create("a"), appendTo("a", "one"), syncFile("a"), syncDir(), appendTo("a", "two"))
	play(t, d, []step{crash(api.Fate{Cuts: []int{2}}), read("a"), loose("a")}, "0", `"onetw" 0`, "0 0")
	play(t, d, []step{create("a"), appendTo("a", "x"), crash(api.Fate{}), read("a")}, "0", "0", "0", `"onetw" 0`)
	play(t, d, []step{create("b"), appendTo("b", "new"), syncFile("b"), rename("b", "a"), pending()}, "0", "0", "0", "0", "2")
	play(t, d, []step{crash(api.Fate{Dirs: []bool{false, true}}), list(), read("a")}, "0", `["a"] 0`, `"new" 0`)
}

// The examples' ninth row.
func TestExampleOfTwoNamesOfOneBody(t *testing.T) {
	d := drive.Load(3, []api.File{file("a", "xyz")})
	ok(t, d, rename("a", "b"), rename("b", "c"), crash(api.Fate{Dirs: []bool{false, true}}))
	play(t, d, []step{image()}, `"a":"xyz" "c":"xyz" `)
}

// The examples' two last rows.
func TestExampleOfHarmAndErrors(t *testing.T) {
	d := drive.Load(10, []api.File{file("a", "onetw")})
	play(t, d, []step{flip("a", 1, 1, 255, 7), cut("a", 4), read("a")}, "0", "0", fmt.Sprintf("%q 0", []byte{'o', 'o', 154, 's'}))
	play(t, d, []step{remove("z"), rename("z", ""), appendTo("", ""), flip("a", -1), cut("z", -1)}, "110", "91", "91", "2", "2")
}

// P11.1: Load refuses what is no name, and a name that is there twice, wherever they stand.
func TestLoadRefuses(t *testing.T) {
	long := strings.Repeat("n", 1024)
	for _, bad := range []string{"", long + "n", strings.Repeat("n", 5000), "a", "b", "\x00"} {
		good := []api.File{file("b", "1"), file("a", ""), file("\x00", "23"), file(long, "4")}
		fatalUnless(t, drive.Load(9, good) != nil, "Load of good files is nil")
		for at := range len(good) + 1 {
			fatalUnless(t, drive.Load(9, slices.Insert(slices.Clone(good), at, file(bad, "1"))) == nil, "Load with %.20q at %d is there", bad, at)
		}
	}
}

// P11.1: what was loaded stands and is safe, its names too, though it is more than the room.
func TestLoadedIsSafe(t *testing.T) {
	want := `"a":"" "b":"12" "c":"3456" `
	for _, room := range []int{0, 5, 6, 1 << 30} {
		d := drive.Load(room, []api.File{file("c", "3456"), file("a", ""), file("b", "12")})
		for range 2 {
			play(t, d, []step{image(), safe(), used(), pending(), loose("c"), list()}, want, want, "6", "0", "0 0", `["a" "b" "c"] 0`)
			ok(t, d, crash(api.Fate{Dirs: []bool{true}, Cuts: []int{1, 1, 1}}))
		}
	}
}

// P11.1: the zero value is a drive of room 0, whatever is called of it first.
func TestZeroValue(t *testing.T) {
	firsts := []step{create("a"), appendTo("a", "x"), appendTo("a", ""), syncFile("a"), rename("a", "b"), rename("a", "a"), remove("a"), syncDir(), wipe(), flip("a", 0, 1), cut("a", 0), crash(api.Fate{}), crash(api.Fate{Dirs: []bool{true}, Cuts: []int{1}}), read("a"), loose("a"), list(), used(), pending(), image(), safe()}
	for _, first := range firsts {
		for _, d := range []device{&drive.Drive{}, drive.New(0), drive.Load(0, nil)} {
			m := newModel(0)
			sameAnswer(t, d, m, first, nil)
			sameState(t, d, m, []step{first})
			for _, s := range []step{create("a"), appendTo("a", "x"), rename("a", "b"), syncDir(), create("b"), crash(api.Fate{Dirs: []bool{true}})} {
				sameAnswer(t, d, m, s, []step{first})
				sameState(t, d, m, []step{first, s})
			}
		}
	}
}

// A name may have any bytes, 1 to 1024 of them; each call with a name refuses what is none, ahead of all else but a drive that is not there.
func TestNames(t *testing.T) {
	long := strings.Repeat("\xff", 1024)
	d := drive.New(100)
	for _, name := range []string{"a", "\x00", "\n", "é", "\xff\xfe", "a/b", "..", " ", long[:1023], long} {
		ok(t, d, create(name), appendTo(name, "x"), syncFile(name), flip(name, 0, 1), cut(name, 1), rename(name, name))
		play(t, d, []step{read(name), loose(name)}, `"y" 0`, "0 0")
		ok(t, d, remove(name))
	}
	ok(t, d, create("a"))
	for _, bad := range []string{"", long + "x", strings.Repeat("a", 1<<20)} {
		for _, s := range []step{create(bad), appendTo(bad, ""), appendTo(bad, strings.Repeat("x", 200)), syncFile(bad), rename(bad, "a"), rename("a", bad), rename("z", bad), rename(bad, bad), remove(bad), flip(bad, 0), flip(bad, -1, 1), cut(bad, 0), cut(bad, -1)} {
			play(t, d, []step{s}, "91")
		}
		play(t, d, []step{read(bad), loose(bad)}, `"" 91`, "0 91")
	}
	play(t, d, []step{image(), pending()}, `"a":"" `, "21") // ten names were made and taken away, and a was made
}

// What is not there is missing, to each call that asks for it; nothing is changed.
func TestMissing(t *testing.T) {
	d := drive.Load(3, []api.File{file("a", "xyz"), file("b", "")})
	ok(t, d, remove("b"))
	for _, name := range []string{"b", "c", "aa", "A", "a\x00"} {
		for _, s := range []step{appendTo(name, ""), appendTo(name, "x"), appendTo(name, "much too much"), syncFile(name), rename(name, "a"), rename(name, "d"), rename(name, name), remove(name), flip(name, 0, 1), cut(name, 0)} {
			play(t, d, []step{s}, "110")
		}
		play(t, d, []step{read(name), loose(name), flip(name, -1, 1), cut(name, -1)}, `"" 110`, "0 110", "2", "2")
	}
	play(t, d, []step{image(), safe(), pending()}, `"a":"xyz" `, `"a":"xyz" "b":"" `, "1")
}

// P11.2: a name that is there already leads to a new body, too: it has no bytes, and the room of the earlier one is free.
func TestCreateAnew(t *testing.T) {
	d := drive.Load(5, []api.File{file("a", "12345")})
	ok(t, d, create("a"))
	play(t, d, []step{read("a"), used(), pending(), safe()}, `"" 0`, "0", "1", `"a":"12345" `)
	ok(t, d, appendTo("a", "678"), create("a"), appendTo("a", "9"))
	play(t, d, []step{read("a"), used(), loose("a"), pending()}, `"9" 0`, "1", "1 0", "2")
	ok(t, d, crash(api.Fate{Dirs: []bool{true}, Cuts: []int{2}}))
	play(t, d, []step{read("a"), used(), pending()}, `"67" 0`, "2", "0")
}

// P11.2: there may be 65536 names, and no more are made, but of a name that is there.
func TestMostNames(t *testing.T) {
	d := drive.New(10)
	for i := range api.MaxFiles {
		fatalUnless(t, d.Create(fmt.Sprint("n", i)) == api.OK, "the name %d is refused", i)
	}
	play(t, d, []step{create("more"), create(""), create("n7"), rename("n7", "more"), create("n7"), create("more"), pending()}, "112", "91", "0", "0", "112", "0", "65539")
	play(t, d, []step{remove("n8"), create("n7"), create("n8")}, "0", "0", "112")
	names, _ := d.List()
	fatalUnless(t, len(names) == 65536 && slices.IsSorted(names), "List answers %d names", len(names))
	ok(t, d, syncDir())
	play(t, d, []step{create("n8"), wipe(), create("n8")}, "112", "0", "0")
}

// P11.2: more names than may be made can be loaded; then none is made until enough of them are gone.
func TestMoreNamesThanMayBeMade(t *testing.T) {
	var files []api.File
	for i := range api.MaxFiles + 2 {
		files = append(files, file(fmt.Sprint("n", i), ""))
	}
	d := drive.Load(10, files)
	play(t, d, []step{create("x"), remove("n0"), create("x"), remove("n1"), create("x"), remove("n2"), create("x"), create("y")}, "112", "0", "112", "0", "112", "0", "0", "112")
	play(t, d, []step{crash(api.Fate{}), create("x"), create("n0")}, "0", "112", "0")
}

// P11.3: the room is for what stands, to its last byte; what was given up and what was taken away has none of it.
func TestRoom(t *testing.T) {
	d := drive.New(10)
	ok(t, d, create("a"), create("b"), appendTo("a", "123456"))
	play(t, d, []step{appendTo("b", "12345"), appendTo("b", "1234"), appendTo("b", "1"), appendTo("a", "1"), appendTo("a", ""), used()}, "111", "0", "111", "111", "0", "10")
	play(t, d, []step{remove("a"), used(), appendTo("b", "1234567"), appendTo("b", "123456"), used()}, "0", "4", "111", "0", "10")
	play(t, d, []step{cut("b", 9), appendTo("b", "xy"), appendTo("b", "x"), appendTo("b", "x")}, "0", "111", "0", "111")
	play(t, d, []step{create("a"), rename("a", "b"), used(), appendTo("b", "1234567890"), appendTo("b", "1")}, "0", "0", "0", "0", "111")
	play(t, d, []step{wipe(), used(), create("b"), appendTo("b", "12345678901"), appendTo("b", "1234567890")}, "0", "0", "0", "111", "0")
}

// P11.3: on a drive that is fuller than its room no byte is taken until there is room again.
func TestFullerThanTheRoom(t *testing.T) {
	d := drive.Load(3, []api.File{file("a", "12345"), file("b", "67")})
	play(t, d, []step{used(), appendTo("b", "1"), appendTo("b", ""), cut("a", 2), appendTo("b", "1"), cut("a", 1), appendTo("b", "1"), appendTo("a", "1")}, "7", "111", "0", "0", "111", "0", "111", "111")
	play(t, d, []step{cut("b", 1), appendTo("a", "89"), appendTo("a", "8"), used(), image()}, "0", "111", "0", "3", `"a":"18" "b":"6" `)
}

// P11.3: refused bytes are refused whole; bytes of each value stand behind one another.
func TestAppendIsWhole(t *testing.T) {
	d := drive.New(300)
	ok(t, d, create("a"))
	var all []byte
	for i := range 256 {
		fatalUnless(t, d.Append("a", []byte{byte(i)}) == api.OK, "Append of the byte %d", i)
		all = append(all, byte(i))
	}
	fatalUnless(t, d.Append("a", make([]byte, 45)) == api.ErrFull, "45 bytes fit where 44 do")
	got, err := d.Read("a")
	fatalUnless(t, err == api.OK && bytes.Equal(got, all), "Read = %v, %d", got, err)
	play(t, d, []step{loose("a"), used(), syncFile("a"), loose("a")}, "256 0", "256", "0", "0 0")
}

// P11.4: Sync makes a body's bytes safe, not its name, and those of no other; bytes behind them are loose again.
func TestSyncOfOneBody(t *testing.T) {
	d := drive.New(20)
	ok(t, d, create("a"), create("b"), syncDir(), appendTo("a", "12"), appendTo("b", "34"), syncFile("a"), appendTo("a", "56"))
	play(t, d, []step{loose("a"), loose("b"), safe()}, "2 0", "2 0", `"a":"12" "b":"" `)
	ok(t, d, crash(api.Fate{Cuts: []int{1}}))
	play(t, d, []step{image()}, `"a":"125" "b":"" `)
}

// A body is one and the same under whatever name: bytes that are put to it and made safe under a new name are seen in what is safe, under the old one.
func TestBodyUnderTwoDirectories(t *testing.T) {
	d := drive.Load(20, []api.File{file("a", "one")})
	ok(t, d, rename("a", "b"), appendTo("b", "two"))
	play(t, d, []step{safe(), image()}, `"a":"one" `, `"b":"onetwo" `)
	ok(t, d, syncFile("b"))
	play(t, d, []step{safe()}, `"a":"onetwo" `)
	ok(t, d, flip("b", 0, 1), cut("b", 4))
	play(t, d, []step{safe(), image()}, `"a":"nnet" `, `"b":"nnet" `)
	ok(t, d, create("a"), appendTo("a", "new"), crash(api.Fate{Dirs: []bool{false, false}}))
	play(t, d, []step{image()}, `"a":"nnet" `)
}

// P11.5: a Rename is one change; to another name that is there, whose body is given up; to itself none.
func TestRename(t *testing.T) {
	d := drive.Load(9, []api.File{file("a", "123"), file("b", "45")})
	play(t, d, []step{rename("a", "a"), pending(), rename("a", "b"), pending(), image(), used(), safe()}, "0", "0", "0", "1", `"b":"123" `, "3", `"a":"123" "b":"45" `)
	play(t, d, []step{rename("a", "b"), rename("b", "c"), rename("c", "a"), pending(), image(), used()}, "110", "0", "0", "3", `"a":"123" `, "3")
	ok(t, d, crash(api.Fate{Dirs: []bool{true}}))
	play(t, d, []step{image(), safe(), used()}, `"b":"123" `, `"b":"123" `, "3")
}

// P11.5: a kept Rename makes old lead to none, whatever it then leads to, and brings the body though its Create was lost.
func TestRenameBehindLostChanges(t *testing.T) {
	d := drive.Load(9, []api.File{file("a", "old"), file("b", "to")})
	ok(t, d, create("a"), appendTo("a", "n"), syncFile("a"), rename("a", "b"), crash(api.Fate{Dirs: []bool{false, true}}))
	play(t, d, []step{image()}, `"b":"n" `)
}

// P11.6, P11.7: what was removed is back behind a loss of power, unless the names were made safe.
func TestRemoveAndSyncDir(t *testing.T) {
	d := drive.Load(9, []api.File{file("a", "1"), file("b", "2")})
	play(t, d, []step{remove("a"), remove("a"), list(), pending(), crash(api.Fate{}), list()}, "0", "110", `["b"] 0`, "1", "0", `["a" "b"] 0`)
	play(t, d, []step{remove("a"), syncDir(), pending(), safe(), crash(api.Fate{}), list()}, "0", "0", "0", `"b":"2" `, "0", `["b"] 0`)
}

// P11.7: SyncDir makes names safe, no bytes.
func TestSyncDirMakesNoBytesSafe(t *testing.T) {
	d := drive.New(9)
	ok(t, d, create("a"), appendTo("a", "12"), syncDir())
	play(t, d, []step{safe(), loose("a"), pending()}, `"a":"" `, "2 0", "0")
	ok(t, d, crash(api.Fate{Dirs: []bool{true, true}, Cuts: []int{1, 1}}))
	play(t, d, []step{image()}, `"a":"1" `)
}

// P11.8: names rise byte by byte; what is told changes nothing.
func TestTellingChangesNothing(t *testing.T) {
	d := drive.New(99)
	names := []string{"\x00", "\x00a", "A", "Z", "a", "a\x00", "aa", "b", "\x7f", "\x80", "é", "\xff", "\xff\xff"}
	for _, name := range slices.Backward(names) {
		ok(t, d, create(name), appendTo(name, name))
	}
	for range 3 {
		play(t, d, []step{list(), used(), pending(), safe(), loose("aa"), read("aa")}, fmt.Sprintf("%q 0", names), "18", "13", "", "2 0", `"aa" 0`)
		for i, f := range d.Image() {
			fatalUnless(t, f.Name == names[i] && string(f.Data) == names[i], "the file %d is %v", i, f)
		}
	}
}

// P11.9: cuts are by the number of the name among those that stand behind it, not among those that stood.
func TestCutsByNumber(t *testing.T) {
	begin := func() *drive.Drive {
		d := drive.New(99)
		ok(t, d, create("b"), create("d"), syncDir(), create("a"), create("c"), create("e"))
		for _, name := range []string{"a", "b", "c", "d", "e"} {
			ok(t, d, appendTo(name, name+"23"), syncFile(name), appendTo(name, "4567"))
		}
		return d
	}
	rows := []struct {
		dirs []bool
		cuts []int
		want string
	}{
		{nil, []int{1, 2}, `"b":"b234" "d":"d2345" `},
		{[]bool{false, true}, []int{1, 2, 3}, `"b":"b234" "c":"c2345" "d":"d23456" `},
		{[]bool{true, true, true}, []int{0, 1, 2, 3, 4}, `"a":"a23" "b":"b234" "c":"c2345" "d":"d23456" "e":"e234567" `},
		{[]bool{true, true, true}, []int{5, math.MaxInt, -1, math.MinInt}, `"a":"a234567" "b":"b234567" "c":"c23" "d":"d23" "e":"e23" `},
		{[]bool{false, false, true, true, true}, []int{0, 0, 1, 9, 9}, `"b":"b23" "d":"d23" "e":"e234" `},
	}
	for _, row := range rows {
		d := begin()
		ok(t, d, crash(api.Fate{Dirs: row.dirs, Cuts: row.cuts}))
		play(t, d, []step{image(), safe(), pending(), loose("b")}, row.want, row.want, "0", "0 0")
	}
}

// P11.9: two names that came to lead to one body have its bytes each for itself, by cuts of their own, and the room counts both.
func TestTwoNamesOfOneBody(t *testing.T) {
	d := drive.New(6)
	ok(t, d, create("a"), syncDir(), appendTo("a", "12"), syncFile("a"), appendTo("a", "345"), rename("a", "b"), rename("b", "c"))
	ok(t, d, crash(api.Fate{Dirs: []bool{false, true}, Cuts: []int{1, 3}}))
	play(t, d, []step{image(), used(), appendTo("a", "x")}, `"a":"123" "c":"12345" `, "8", "111")
	ok(t, d, flip("c", 0, 1), cut("a", 1), appendTo("a", ""), create("b"))
	play(t, d, []step{image(), used(), safe()}, `"a":"1" "b":"" "c":"02345" `, "6", `"a":"1" "c":"02345" `)
}

// P11.10: a Flip turns what bytes there are, safe ones and loose ones, and leaves them so.
func TestFlip(t *testing.T) {
	begin := func() *drive.Drive {
		d := drive.New(9)
		ok(t, d, create("a"), appendTo("a", "\x00\x01"), syncFile("a"), appendTo("a", "\x02\x03"), syncDir())
		return d
	}
	rows := []struct {
		at      int
		pattern []byte
		want    string
	}{
		{0, nil, "\x00\x01\x02\x03"},
		{0, []byte{255, 255, 255, 255}, "\xff\xfe\xfd\xfc"},
		{1, []byte{0x10, 0x20}, "\x00\x11\x22\x03"},
		{3, []byte{1, 2, 3}, "\x00\x01\x02\x02"},
		{4, []byte{1, 2, 3}, "\x00\x01\x02\x03"},
		{math.MaxInt, []byte{1, 2, 3}, "\x00\x01\x02\x03"},
		{math.MaxInt - 1, []byte{1, 2, 3}, "\x00\x01\x02\x03"},
	}
	for _, row := range rows {
		d := begin()
		ok(t, d, flip("a", row.at, row.pattern...))
		play(t, d, []step{read("a"), loose("a"), used(), safe(), pending()}, fmt.Sprintf("%q 0", row.want), "2 0", "4", fmt.Sprintf("%q:%q ", "a", row.want[:2]), "0")
		ok(t, d, flip("a", row.at, row.pattern...))
		play(t, d, []step{read("a")}, `"\x00\x01\x02\x03" 0`)
	}
}

// P11.10: a Cut leaves the first bytes, of which those that were safe are; what is then put behind them is loose.
func TestCut(t *testing.T) {
	rows := []struct {
		n          int
		want       string
		loose, all string
	}{
		{0, "", "0 0", "0"}, {1, "1", "0 0", "1"}, {2, "12", "0 0", "2"}, {3, "123", "1 0", "3"}, {4, "1234", "2 0", "4"}, {5, "1234", "2 0", "4"}, {math.MaxInt, "1234", "2 0", "4"},
	}
	for _, row := range rows {
		d := drive.New(9)
		ok(t, d, create("a"), syncDir(), appendTo("a", "12"), syncFile("a"), appendTo("a", "34"), cut("a", row.n))
		play(t, d, []step{read("a"), loose("a"), used(), pending()}, fmt.Sprintf("%q 0", row.want), row.loose, row.all, "0")
		ok(t, d, appendTo("a", "xy"), crash(api.Fate{}))
		play(t, d, []step{read("a")}, fmt.Sprintf("%q 0", row.want[:min(2, len(row.want))]))
	}
}

// P11.10: behind a Wipe nothing is left, and no loss of power brings anything back; the room is as it was.
func TestWipe(t *testing.T) {
	d := drive.Load(5, []api.File{file("a", "123"), file("b", "")})
	ok(t, d, create("c"), remove("b"), wipe())
	play(t, d, []step{list(), safe(), image(), pending(), used()}, "[] 0", "", "", "0", "0")
	play(t, d, []step{crash(api.Fate{Dirs: []bool{true, true}}), list()}, "0", "[] 0")
	play(t, d, []step{create("a"), appendTo("a", "123456"), appendTo("a", "12345"), pending()}, "0", "111", "0", "1")
}

// P11.11
func TestAPlainDriveKeepsItsPower(t *testing.T) {
	d, m := drive.New(9), newModel(9)
	for i, s := range []step{create("a"), appendTo("a", "12"), syncFile("a"), syncDir(), appendTo("a", "3"), rename("a", "b")} {
		sameAnswer(t, d, m, s, nil)
		fatalUnless(t, !d.Struck(), "a plain drive is struck")
		d.Rest(i%2 == 0)
		sameState(t, d, m, []step{s})
	}
}

// P11.12
func TestADriveThatIsNotThere(t *testing.T) {
	var d *drive.Drive
	for _, name := range []string{"a", "", strings.Repeat("a", 1025)} {
		for _, s := range []step{create(name), appendTo(name, ""), appendTo(name, "x"), syncFile(name), rename(name, "b"), rename(name, ""), rename(name, name), remove(name), syncDir(), crash(api.Fate{}), crash(api.Fate{Dirs: []bool{true}, Cuts: []int{1}}), flip(name, 0, 1), flip(name, -1), cut(name, 0), cut(name, -1), wipe()} {
			play(t, d, []step{s}, "1")
		}
		play(t, d, []step{read(name), loose(name)}, `"" 1`, "0 1")
	}
	play(t, d, []step{list(), used(), pending(), image(), safe()}, "[] 1", "0", "0", "", "")
	fatalUnless(t, !d.Struck(), "it is struck")
	d.Rest(true)
	d.Rest(false)
}

// The numbers of the chapter's errors.
func TestErrors(t *testing.T) {
	got := []api.Errno{api.OK, api.ErrNil, api.ErrArg, api.ErrName, api.ErrMissing, api.ErrFull, api.ErrMany}
	fatalUnless(t, slices.Equal(got, []api.Errno{0, 1, 2, 91, 110, 111, 112}), "the errors are %v", got)
}

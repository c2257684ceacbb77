package label_test

import (
	"bytes"
	"fmt"
	"math"
	"slices"
	"testing"

	"cairn/api"
	"cairn/bay"
	"cairn/drive"
	"cairn/frame"
	"cairn/label"
	"cairn/naming"
	"cairn/wound"
)

func wantNoLabel(t *testing.T, says string, b []byte) {
	t.Helper()
	l, err := label.Parse(b)
	fatalUnless(t, l == api.Label{} && err == api.ErrLabel, "Parse of %s, %v = %v, %d", says, b, l, err)
}

func wantEncode(t *testing.T, l api.Label, want api.Errno) {
	t.Helper()
	b, err := label.Encode(l)
	fatalUnless(t, err == want && (len(b) == 31) == (want == api.OK) && (len(b) == 0) == (want != api.OK), "Encode(%v) = %v, %d, not %d", l, b, err, want)
}

// The chapter's examples, row by row.
func TestExamples(t *testing.T) {
	b, err := label.Encode(plain())
	first := []byte{67, 82, 78, 1, 1, 2, 3, 4, 5, 6, 7, 8, 2, 1, 4, 0, 0, 0, 2, 2, 1, 0, 0, 0, 0, 0, 0}
	fatalUnless(t, len(b) == 31 && bytes.Equal(b[:27], first) && err == api.OK, "Encode = %v, %d", b, err)
	l, err := label.Parse(b)
	fatalUnless(t, l == plain() && err == api.OK, "Parse = %v, %d", l, err)

	wantEncode(t, with(func(l *api.Label) { l.Shape.K, l.Index = 1, 1 }), api.OK)
	wantEncode(t, with(func(l *api.Label) { l.Shape.K = 1 }), api.ErrArg)
	wantEncode(t, with(func(l *api.Label) { l.Index = 3 }), api.ErrArg)
	wantEncode(t, with(func(l *api.Label) { l.Epoch = -1 }), api.ErrArg)
	wantEncode(t, with(func(l *api.Label) { l.Shape.K, l.Index = 0, 9 }), api.ErrShape)
	wantEncode(t, with(func(l *api.Label) { l.Shape.K, l.Shape.M = 1, 2 }), api.ErrShape)

	wantNoLabel(t, "nothing", nil)
	wantNoLabel(t, "all but the last", b[:30])
	wantNoLabel(t, "a 0 behind it", append(slices.Clone(b), 0))
	for i := range 8 * len(b) {
		turned := slices.Clone(b)
		turned[i/8] ^= 1 << (i % 8)
		wantNoLabel(t, fmt.Sprintf("the bit %d turned", i), turned)
	}
	nine := slices.Clone(first)
	nine[18] = 9
	wantNoLabel(t, "9 for Index", summed(nine))

	wantRead(t, nil, api.Label{}, api.ErrNil)
	wantNumber(t, "Write", label.Write(nil, plain()), api.ErrNil)
	d := drive.New(100)
	wantRead(t, d, api.Label{}, api.ErrMissing)
	wantNumber(t, "Write", label.Write(d, plain()), api.OK)
	wantRead(t, d, plain(), api.OK)
}

// P15.1: the bytes of labels at all limits, and of any others, in the table's order.
func TestEncode(t *testing.T) {
	for _, l := range edgeLabels() {
		wantNumber(t, "Encode", checkEncode(t, l), api.OK)
	}
	r := source(151)
	for range 50000 {
		wantNumber(t, "Encode", checkEncode(t, someLabel(r)), api.OK)
	}
}

// P15.1, P15.2: each field stands where the table says, and nowhere else.
func TestFieldsStandInTheirPlaces(t *testing.T) {
	base, _ := label.Encode(api.Label{Shape: api.Shape{K: 1, M: 1, Block: 1}})
	for _, x := range []struct {
		l    api.Label
		at   int
		want []byte
	}{
		{api.Label{Store: [8]byte{9, 8, 7, 6, 5, 4, 3, 2}, Shape: api.Shape{K: 1, M: 1, Block: 1}}, 4, []byte{9, 8, 7, 6, 5, 4, 3, 2}},
		{api.Label{Shape: api.Shape{K: 200, M: 1, Block: 1}}, 12, []byte{200}},
		{api.Label{Shape: api.Shape{K: 100, M: 99, Block: 1}}, 12, []byte{100, 99}},
		{api.Label{Shape: api.Shape{K: 1, M: 1, Block: 0x0302}}, 14, []byte{2, 3, 0, 0}},
		{api.Label{Shape: api.Shape{K: 1, M: 1, Block: 65536}}, 14, []byte{0, 0, 1, 0}},
		{api.Label{Shape: api.Shape{K: 1, M: 1, Block: 1}, Index: 1}, 18, []byte{1}},
		{api.Label{Shape: api.Shape{K: 1, M: 1, Block: 1}, Epoch: 0x0b0a0908}, 19, []byte{8, 9, 10, 11, 0, 0, 0, 0}},
	} {
		want := slices.Clone(base[:27])
		copy(want[x.at:], x.want)
		b, err := label.Encode(x.l)
		fatalUnless(t, err == api.OK && bytes.Equal(b[:27], want), "Encode(%v) = %v, %d, not %v", x.l, b, err, want)
		l, err := label.Parse(summed(want))
		fatalUnless(t, err == api.OK && l == x.l, "Parse(%v) = %v, %d, not %v", want, l, err, x.l)
	}
}

// P15.1, P15.2: every K, every M, and the places next to what may be, of labels and of bytes.
func TestEveryShape(t *testing.T) {
	good := 0
	for k := -1; k <= 257; k++ {
		for m := -1; m <= 257; m++ {
			for _, index := range []int{-1, 0, k + m - 1, k + m} {
				l := with(func(l *api.Label) { l.Shape.K, l.Shape.M, l.Index = k, m, index })
				if checkEncode(t, l) == api.OK {
					good++
				}
				if min(k, m, index) >= 0 && max(k, m, index) <= 255 {
					checkParse(t, formOf(l))
				}
			}
		}
	}
	fatalUnless(t, good == 2*127*128, "%d labels may be", good) // 127 times 128 shapes, each with its first and its last place
}

// P15.1, P15.2: every number of a Block, and those next to it.
func TestEveryBlock(t *testing.T) {
	for block := -1; block <= 65540; block++ {
		l := with(func(l *api.Label) { l.Shape.Block = block })
		fatalUnless(t, (checkEncode(t, l) == api.OK) == (block >= 1 && block <= 65536), "Encode with Block %d", block)
		if block >= 0 {
			checkParse(t, formOf(l))
		}
	}
}

// flaw is something that a label may not have. Of two of them that of the lower rank is told.
type flaw struct {
	name string
	rank int
	want api.Errno
	make func(l *api.Label)
}

// flaws are those of each error in Encode's order; each with the least and the greatest int, next to what may be, and such as would be right in fewer bits.
func flaws() []flaw {
	var all []flaw
	add := func(name string, rank int, want api.Errno, numbers []int, set func(l *api.Label, n int)) {
		for _, n := range numbers {
			all = append(all, flaw{fmt.Sprint(name, " ", n), rank, want, func(l *api.Label) { set(l, n) }})
		}
	}
	add("K", 1, api.ErrShape, []int{math.MinInt, -1, 0, 255, 256, 258, 1<<32 + 2, math.MaxInt}, func(l *api.Label, n int) { l.Shape.K = n })
	add("M", 1, api.ErrShape, []int{math.MinInt, -1, 0, 3, 255, 257, 1<<32 + 1, math.MaxInt}, func(l *api.Label, n int) { l.Shape.M = n })
	add("K and M", 1, api.ErrShape, []int{math.MinInt, -1, 0, 128, math.MaxInt/2 + 1, math.MaxInt}, func(l *api.Label, n int) { l.Shape.K, l.Shape.M = n, n })
	add("Block", 1, api.ErrShape, []int{math.MinInt, -1, 0, 65537, 1<<32 + 4, math.MaxInt}, func(l *api.Label, n int) { l.Shape.Block = n })
	add("Index", 2, api.ErrArg, []int{math.MinInt, -254, -1, 3, 4, 255, 256, 258, 1<<32 + 1, math.MaxInt}, func(l *api.Label, n int) { l.Index = n })
	add("Epoch", 3, api.ErrArg, []int{math.MinInt, -1 << 32, -1, 1 << 32, 1<<32 + 5, math.MaxInt}, func(l *api.Label, n int) { l.Epoch = n })
	return all
}

// P15.1, P15.4: each flaw alone, and each beside each other one that doesn't undo it: the first in order is told, no bytes, and no call of the drive is made.
func TestFlaws(t *testing.T) {
	refused := func(says string, l api.Label, want api.Errno) {
		t.Helper()
		b, err := label.Encode(l)
		fatalUnless(t, len(b) == 0 && err == want, "Encode with %s = %v, %d, not %d", says, b, err, want)
		wantNumber(t, "faultOf", faultOf(l), want)
		d := &spy{answers: []api.Errno{api.ErrIO}}
		wantNumber(t, "Write with "+says, label.Write(d, l), want)
		wantAsked(t, d, nil)
		wantNumber(t, "Write with "+says, label.Write(nil, l), api.ErrNil)
	}
	for _, a := range flaws() {
		refused(a.name, with(a.make), a.want)
		for _, b := range flaws() {
			if a.rank < b.rank {
				refused(a.name+" and "+b.name, with(func(l *api.Label) { a.make(l); b.make(l) }), a.want)
			}
		}
	}
}

// P15.2: the form of every label at a limit, and each of its bytes with each other value: with a right sum, and with the sum that stood there.
func TestParseOfEveryByte(t *testing.T) {
	told := map[api.Errno]int{}
	for _, l := range edgeLabels() {
		form := formOf(l)
		wantNumber(t, "Parse", checkParse(t, form), api.OK)
		for at := range form {
			for x := range 256 {
				b := slices.Clone(form)
				b[at] = byte(x)
				checkParse(t, b)
				told[checkParse(t, summed(b[:27]))]++
			}
		}
	}
	fatalUnless(t, told[api.OK] > 1000 && told[api.ErrLabel] > 1000, "the numbers were told %v times", told)
}

// P15.2: right sums over a mark or over numbers that no label has.
func TestParseOfRightSums(t *testing.T) {
	for i, change := range []func(x *raw){
		func(x *raw) { x.mark[0] = 'c' },
		func(x *raw) { x.mark[1] = 0 },
		func(x *raw) { x.mark[2] = 'M' },
		func(x *raw) { x.mark[3] = 0 },
		func(x *raw) { x.mark[3] = 2 }, // a shard's
		func(x *raw) { x.mark = [4]byte{1, 78, 82, 67} },
		func(x *raw) { x.k = 0 },
		func(x *raw) { x.m = 0 },
		func(x *raw) { x.m = 3 },
		func(x *raw) { x.k = 255 },
		func(x *raw) { x.k, x.m = 128, 128 },
		func(x *raw) { x.k, x.m = 255, 255 },
		func(x *raw) { x.block = 0 },
		func(x *raw) { x.block = 65537 },
		func(x *raw) { x.block = 1<<24 + 4 },
		func(x *raw) { x.block = math.MaxUint32 },
		func(x *raw) { x.index = 3 },
		func(x *raw) { x.index = 255 },
		func(x *raw) { x.epoch = 1 << 32 },
		func(x *raw) { x.epoch = 1<<32 + 258 },
		func(x *raw) { x.epoch = 1<<56 + 258 },
		func(x *raw) { x.epoch = 1 << 63 },
		func(x *raw) { x.epoch = 1<<63 + 258 },
		func(x *raw) { x.epoch = math.MaxUint64 },
	} {
		x := rawOf(plain())
		change(&x)
		wantNoLabel(t, fmt.Sprint("a right sum, number ", i), x.bytes())
	}
	x := rawOf(plain())
	x.epoch = 1<<32 - 1
	wantNumber(t, "Parse", checkParse(t, x.bytes()), api.OK)
}

// P15.2: sums that are none: in another order of bytes, turned, of fewer bytes or more, begun otherwise, none.
func TestParseOfWrongSums(t *testing.T) {
	for _, l := range edgeLabels() {
		form := formOf(l)
		s := sum(form[:27])
		for i, wrong := range []uint32{^s, s + 1, s - 1, 0, math.MaxUint32, sum(form[4:27]), sum(form[:26]), sum(form), s<<8 | s>>24, s<<16 | s>>16, s<<24 | s<<8&0xff0000 | s>>8&0xff00 | s>>24} {
			if wrong == s {
				continue
			}
			b := append(slices.Clone(form[:27]), byte(wrong), byte(wrong>>8), byte(wrong>>16), byte(wrong>>24))
			wantNoLabel(t, fmt.Sprint("the wrong sum ", i), b)
		}
	}
}

// P15.2: fewer bytes and more, of whatever kind: right bytes behind a label or ahead of it, right sums over fewer or more.
func TestParseOfOtherLengths(t *testing.T) {
	for _, l := range edgeLabels() {
		form := formOf(l)
		for n := range form {
			wantNoLabel(t, "a beginning", form[:n])
			wantNoLabel(t, "an end", form[len(form)-n:])
			wantNoLabel(t, "a beginning with its right sum", summed(form[:min(n, 26)]))
		}
		for n := 1; n < 40; n++ {
			more := append(slices.Clone(form), make([]byte, n)...)
			wantNoLabel(t, "zeros behind it", more)
			wantNoLabel(t, "more with a right sum", summed(more[:27+n]))
			wantNoLabel(t, "zeros ahead of it", append(make([]byte, n), form...))
		}
		wantNoLabel(t, "two of them", append(slices.Clone(form), form...))
		wantNoLabel(t, "its sum behind it", summed(form))
	}
	for n := range 1000 {
		wantNoLabel(t, "zeros", make([]byte, n))
		wantNoLabel(t, "ones", bytes.Repeat([]byte{255}, n))
	}
}

// P15.2: any bytes, in the chapter's words.
func TestParseOfAnyBytes(t *testing.T) {
	r := source(152)
	told := map[api.Errno]int{}
	for range 100000 {
		x := rawOf(someLabel(r))
		switch r.Intn(6) {
		case 0:
			*pick(r, &x.k, &x.m, &x.index) = byte(r.Intn(256))
		case 1:
			x.block ^= 1 << r.Intn(32)
		case 2:
			x.epoch ^= 1 << r.Intn(64)
		case 3:
			x.mark[r.Intn(4)] ^= byte(r.Intn(2)) << r.Intn(8)
		}
		b := x.bytes()
		if r.Intn(4) == 0 {
			b[r.Intn(31)] ^= byte(r.Intn(256))
		}
		told[checkParse(t, b)]++
		checkParse(t, someBytes(r, r.Intn(64)))
		checkParse(t, summed(append([]byte{67, 82, 78, 1}, someBytes(r, 23)...)))
	}
	fatalUnless(t, told[api.OK] > 10000 && told[api.ErrLabel] > 10000, "the numbers were told %v times", told)
}

// numbers are answers of a drive: all the chapters' kinds, and such as no chapter has.
var numbers = []api.Errno{api.OK, api.ErrNil, api.ErrArg, api.ErrShape, api.ErrName, api.ErrMissing, api.ErrFull, api.ErrMany, api.ErrIO, api.ErrOffline, api.ErrDown, api.ErrLabel, -1, 999, math.MaxInt, math.MinInt}

// P15.3: of all bytes and all answers of Read: the answer, if it is refused, else what the bytes are; one call, of the label's file.
func TestReadAsksOnce(t *testing.T) {
	files := [][]byte{nil, {}, {0}, []byte("junk"), make([]byte, 31), formOf(plain())[:30], append(formOf(plain()), 0)}
	for _, l := range edgeLabels() {
		spoilt := formOf(l)
		spoilt[20] ^= 4
		files = append(files, formOf(l), spoilt)
	}
	for _, b := range files {
		for _, err := range numbers {
			d := &spy{answers: []api.Errno{err}, files: map[string][]byte{"l": b, "t": formOf(with(func(l *api.Label) { l.Epoch = 7 }))}}
			want, number := parsed(b)
			if err != api.OK {
				want, number = api.Label{}, err
			}
			wantRead(t, d, want, number)
			wantAsked(t, d, []string{`Read "l"`})
		}
	}
}

// everyAnswer goes through all lists of so many of a drive's answers.
func everyAnswer(n int, from []api.Errno, do func(answers []api.Errno)) {
	answers := make([]api.Errno, n)
	var fill func(i int)
	fill = func(i int) {
		if i == n {
			do(slices.Clone(answers))
			return
		}
		for _, err := range from {
			answers[i] = err
			fill(i + 1)
		}
	}
	fill(0)
}

// P15.4: of every answer of every call those of layer 13, up to the first that is refused, of the label's name and its bytes.
func TestWriteAsksInOrder(t *testing.T) {
	for _, l := range edgeLabels() {
		everyAnswer(5, []api.Errno{api.OK, api.ErrMissing, -1}, func(answers []api.Errno) {
			d := &spy{answers: answers, files: map[string][]byte{"l": formOf(l)}}
			asked, want := wordsOfWrite(l, answers)
			wantNumber(t, "Write", label.Write(d, l), want)
			wantAsked(t, d, asked)
		})
	}
	for at := range 5 {
		for _, err := range numbers {
			answers := make([]api.Errno, 5)
			answers[at] = err
			d := &spy{answers: answers}
			asked, want := wordsOfWrite(plain(), answers)
			wantNumber(t, "Write", label.Write(d, plain()), want)
			wantAsked(t, d, asked)
			fatalUnless(t, err == api.OK || want == err, "%d at %d: %d", err, at, want)
		}
	}
}

// P15.4: what stands on the drive is the label's bytes, safe, under the label's name, in the place of what was; all else is as it was.
func TestWriteIsSafe(t *testing.T) {
	for _, l := range edgeLabels() {
		d := drive.Load(1000, []api.File{{Name: "l", Data: []byte("older and longer than a label may be")}, {Name: "t", Data: []byte("left")}, {Name: "o61", Data: []byte("shard")}})
		w := wound.New(d)
		wantNumber(t, "Write", label.Write(w, l), api.OK)
		fatalUnless(t, w.Calls() == 5 && d.Pending() == 0, "%d calls, %d pending", w.Calls(), d.Pending())
		for range 2 {
			image := d.Image()
			fatalUnless(t, len(image) == 2 && image[0].Name == "l" && bytes.Equal(image[0].Data, formOf(l)) && image[1].Name == "o61" && string(image[1].Data) == "shard", "the drive has %v", image)
			wantRead(t, w, l, api.OK)
			d.Crash(api.Fate{})
		}
	}
}

// P15.4: the old label stands beside the new one until that has its name: so a drive must have room for two.
func TestWriteTakesRoomForTwo(t *testing.T) {
	next := with(func(l *api.Label) { l.Epoch++ })
	d := drive.New(30)
	wantNumber(t, "Write", label.Write(d, plain()), api.ErrFull)
	wantRead(t, d, api.Label{}, api.ErrMissing)
	d = drive.New(61)
	wantNumber(t, "Write", label.Write(d, plain()), api.OK)
	wantNumber(t, "Write", label.Write(d, next), api.ErrFull)
	wantRead(t, d, plain(), api.OK)
	d = drive.New(62)
	wantNumber(t, "Write", label.Write(d, plain()), api.OK)
	wantNumber(t, "Write", label.Write(d, next), api.OK)
	wantRead(t, d, next, api.OK)
	fatalUnless(t, d.Used() == 31, "Used = %d", d.Used())
}

// P15.4: a drive that has as many names as it may have.
func TestWriteToADriveOfManyNames(t *testing.T) {
	files := make([]api.File, api.MaxFiles)
	for i := range files {
		files[i].Name = fmt.Sprint("n", i)
	}
	d := drive.Load(1000, files)
	wantNumber(t, "Write", label.Write(d, plain()), api.ErrMany)
	wantRead(t, d, api.Label{}, api.ErrMissing)
	wantNumber(t, "Remove", d.Remove("n7"), api.OK)
	wantNumber(t, "Write", label.Write(d, plain()), api.OK)
	wantRead(t, d, plain(), api.OK)
}

// P15.3, P15.4: ErrNil comes ahead of whatever the label has.
func TestNoDrive(t *testing.T) {
	wantRead(t, nil, api.Label{}, api.ErrNil)
	for _, l := range append(edgeLabels(), api.Label{}, with(func(l *api.Label) { l.Index = -1 }), with(func(l *api.Label) { l.Epoch = -1 })) {
		wantNumber(t, "Write", label.Write(nil, l), api.ErrNil)
	}
}

// Pointers that lead to no drive answer ErrNil themselves, and nothing panics.
func TestPointersToNoDrive(t *testing.T) {
	for _, d := range []api.Disk{(*drive.Drive)(nil), (*wound.Wound)(nil), &wound.Wound{}} {
		wantRead(t, d, api.Label{}, api.ErrNil)
		wantNumber(t, "Write", label.Write(d, plain()), api.ErrNil)
		wantNumber(t, "Write", label.Write(d, api.Label{}), api.ErrShape)
	}
}

// Offline and without power everything is refused at the first call of the drive, and nothing is changed.
func TestSilentDrives(t *testing.T) {
	for _, want := range []api.Errno{api.ErrOffline, api.ErrDown} {
		w := wound.New(drive.New(100))
		wantNumber(t, "Write", label.Write(w, plain()), api.OK)
		w.Arm(nil)
		w.Offline(want == api.ErrOffline)
		w.Power(want != api.ErrDown)
		wantRead(t, w, api.Label{}, want)
		wantNumber(t, "Write", label.Write(w, with(func(l *api.Label) { l.Epoch++ })), want)
		wantNumber(t, "Write of no label", label.Write(w, api.Label{}), api.ErrShape)
		fatalUnless(t, w.Calls() == 0 && w.Pending() == 0 && len(w.Image()) == 1, "Calls %d, %d pending, %v", w.Calls(), w.Pending(), w.Image())
		w.Offline(false)
		w.Power(true)
		wantRead(t, w, plain(), api.OK)
	}
}

// A label stands beside shards, and is none of them; a shard's bytes are no label, a label's bytes no shard.
func TestLabelsBesideShards(t *testing.T) {
	d := drive.New(1000)
	s := api.Shard{Head: api.Head{Store: plain().Store, Shape: plain().Shape, Key: "l", Index: 2, Gen: api.Gen{Epoch: 258, Count: 1}}}
	wantNumber(t, "Store", bay.Store(d, s), api.OK)
	wantRead(t, d, api.Label{}, api.ErrMissing)
	wantNumber(t, "Write", label.Write(d, plain()), api.OK)
	wantRead(t, d, plain(), api.OK)
	keys, err := bay.Keys(d)
	fatalUnless(t, slices.Equal(keys, []string{"l"}) && err == api.OK, "Keys = %q, %d", keys, err)
	seen := bay.Look(d, s.Head)
	fatalUnless(t, seen.Kind == api.SeenShard && seen.Shard.Head == s.Head, "Look = %v", seen)
	form, err := frame.Encode(s)
	fatalUnless(t, err == api.OK, "Encode = %d", err)
	for n := range len(form) + 1 {
		wantNoLabel(t, "a shard", form[:n])
	}
	for _, l := range edgeLabels() {
		_, err := frame.ParseHead(formOf(l))
		fatalUnless(t, err != api.OK, "a label's bytes are a shard's")
	}
}

// The numbers of the chapter's errors, and the label's name.
func TestErrors(t *testing.T) {
	got := []api.Errno{api.OK, api.ErrNil, api.ErrArg, api.ErrShape, api.ErrMissing, api.ErrLabel}
	fatalUnless(t, slices.Equal(got, []api.Errno{0, 1, 2, 4, 110, 150}), "the errors are %v", got)
	fatalUnless(t, naming.Label == "l" && naming.Temp == "t" && api.MaxEpoch == 1<<32-1, "%q, %q, %d", naming.Label, naming.Temp, api.MaxEpoch)
}

package bay_test

import (
	"fmt"
	"iter"
	"math"
	"slices"
	"strings"
	"testing"

	"cairn/api"
	"cairn/atomic"
	"cairn/bay"
	"cairn/drive"
	"cairn/frame"
	"cairn/naming"
	"cairn/wound"
)

func wantKind(t *testing.T, says string, got api.Seen, kind int, number api.Errno) {
	t.Helper()
	wantSeen(t, says, got, api.Seen{Kind: kind, Err: number})
}

// The chapter's examples, row by row.
func TestExamples(t *testing.T) {
	w := wound.New(drive.New(1000))
	s := plainShard()
	shown, head := api.Seen{Kind: api.SeenShard, Shard: s}, api.Seen{Kind: api.SeenShard, Shard: api.Shard{Head: s.Head}}
	fatalUnless(t, len(mustEncode(s)) == 54, "the form has %d bytes", len(mustEncode(s)))

	wantKind(t, "Look", bay.Look(w, s.Head), api.SeenNone, api.OK)
	wantNumber(t, "Store", bay.Store(w, s), api.OK)
	wantSeen(t, "Look", bay.Look(w, s.Head), shown)

	wantKind(t, "Look with Index 1", bay.Look(w, with(func(h *api.Head) { h.Index = 1 })), api.SeenSpoilt, api.OK)
	wantKind(t, "Look with Key b", bay.Look(w, with(func(h *api.Head) { h.Key = "b" })), api.SeenNone, api.OK)
	wantKind(t, "Look with no Key", bay.Look(w, with(func(h *api.Head) { h.Key = "" })), api.SeenNone, api.OK)
	wantSeen(t, "Look with Size 9", bay.Look(w, with(func(h *api.Head) { h.Size = 9 })), shown)

	wantKeys(t, w, []string{"a"}, api.OK)
	wantSeen(t, "Glance", bay.Glance(w, s.Head), head)

	wantNumber(t, "Flip", w.Flip("o61", 45, []byte{1}), api.OK)
	wantKind(t, "Look", bay.Look(w, s.Head), api.SeenSpoilt, api.OK)
	wantSeen(t, "Glance", bay.Glance(w, s.Head), head)
	wantNumber(t, "Flip", w.Flip("o61", 4, []byte{1}), api.OK)
	wantKind(t, "Glance", bay.Glance(w, s.Head), api.SeenSpoilt, api.OK)

	w.Offline(true)
	wantKind(t, "Look", bay.Look(w, s.Head), api.SeenSilent, api.ErrOffline)
	wantNumber(t, "Drop", bay.Drop(w, "a"), api.ErrOffline)
	wantKeys(t, w, nil, api.ErrOffline)
	w.Offline(false)
	wantNumber(t, "Drop", bay.Drop(w, "a"), api.OK)
	wantNumber(t, "Drop", bay.Drop(w, "a"), api.OK)
	wantNumber(t, "Drop of no key", bay.Drop(w, ""), api.ErrKey)

	wantKind(t, "Look", bay.Look(nil, s.Head), api.SeenSilent, api.OK)
	wantNumber(t, "Store", bay.Store(nil, s), api.ErrNil)
	wantNumber(t, "Drop", bay.Drop(nil, ""), api.ErrNil)
	wantKeys(t, nil, nil, api.ErrNil)
	wantTold(t, bay.All(nil, s.Head), nil)
}

// numbers are answers of a drive: all the chapters' kinds, and such as no chapter has.
var numbers = []api.Errno{api.OK, api.ErrNil, api.ErrKey, api.ErrName, api.ErrMissing, api.ErrFull, api.ErrMany, api.ErrIO, api.ErrOffline, api.ErrDown, -1, 999, math.MaxInt, math.MinInt}

// everyAnswer goes through all lists of so many of a drive's answers.
func everyAnswer(n int, from []api.Errno, do func(answers []api.Errno)) {
	answers := make([]api.Errno, n)
	var fill func(i int)
	fill = func(i int) {
		if i == n {
			do(slices.Clone(answers))
			return
		}
		for _, err := range from {
			answers[i] = err
			fill(i + 1)
		}
	}
	fill(0)
}

// someKeys are keys of every kind: of one byte, of the most, no runes, such as are names of files themselves.
func someKeys() []string {
	return []string{"a", "b", "aa", "A b", "\x00", "\xff", "é", "t", "l", "o", "o61", "/", strings.Repeat("k", 254), strings.Repeat("k", 255), strings.Repeat("\xff", 255), "\x00" + strings.Repeat("z", 254)}
}

// noKeys are such as are none.
func noKeys() []string {
	return []string{"", strings.Repeat("k", 256), strings.Repeat("k", 1024), strings.Repeat("é", 128), strings.Repeat("\x00", 70000)}
}

// someShards are shards of every kind: of each key, without blocks, with one, with the most, of shapes and numbers at their limits.
func someShards() []api.Shard {
	r := source(140)
	l := []api.Shard{plainShard()}
	for _, key := range someKeys() {
		l = append(l, filled(r, with(func(h *api.Head) { h.Key = key })))
	}
	for _, change := range []func(h *api.Head){
		func(h *api.Head) { h.Size = 0 },
		func(h *api.Head) { h.Size = 8 },
		func(h *api.Head) { h.Index = 0 },
		func(h *api.Head) { h.Store = [8]byte{} },
		func(h *api.Head) { h.Gen = api.Gen{Epoch: 1, Count: 1} },
		func(h *api.Head) { h.Gen = api.Gen{Epoch: api.MaxEpoch, Count: api.MaxCount} },
		func(h *api.Head) { h.Shape, h.Size = api.Shape{K: 1, M: 1, Block: 1}, api.MaxBlocks; h.Index = 1 },
		func(h *api.Head) { h.Shape, h.Index = api.Shape{K: 254, M: 1, Block: api.MaxBlock}, 254 },
		func(h *api.Head) { h.Shape, h.Index, h.Size = api.Shape{K: 128, M: 127, Block: 3}, 254, 1000 },
	} {
		l = append(l, filled(r, with(change)))
	}
	return l
}

// P14.1: of every answer of every call those of layer 13 up to the first that is refused, of the key's name and the shard's form.
func TestStoreAsksInOrder(t *testing.T) {
	few := []api.Errno{api.OK, api.ErrMissing, -1}
	for _, s := range someShards() {
		everyAnswer(5, few, func(answers []api.Errno) {
			d := &spy{answers: answers, names: []string{"t", nameOf(s.Key)}, files: map[string][]byte{nameOf(s.Key): []byte("old")}}
			asked, want := wordsOfStore(s, answers)
			wantNumber(t, "Store", bay.Store(d, s), want)
			wantAsked(t, d, asked)
		})
	}
	for at := range 5 {
		for _, err := range numbers {
			answers := make([]api.Errno, 5)
			answers[at] = err
			d := &spy{answers: answers}
			asked, want := wordsOfStore(plainShard(), answers)
			wantNumber(t, "Store", bay.Store(d, plainShard()), want)
			wantAsked(t, d, asked)
			fatalUnless(t, err == api.OK || want == err, "%d at %d: %d", err, at, want)
		}
	}
}

// P14.1: what stands on the drive is the shard's form alone, under the key's name, in the place of what was.
func TestStoreIsSafe(t *testing.T) {
	for _, s := range someShards() {
		d := drive.Load(1<<22, []api.File{{Name: nameOf(s.Key), Data: []byte("older")}, {Name: "t", Data: []byte("left")}, {Name: "l", Data: []byte("label")}})
		wantNumber(t, "Store", bay.Store(d, s), api.OK)
		fatalUnless(t, d.Pending() == 0 && len(d.Image()) == 2, "%d pending, of %v", d.Pending(), d.Image())
		d.Crash(api.Fate{})
		b, err := d.Read(nameOf(s.Key))
		fatalUnless(t, string(b) == string(mustEncode(s)) && err == api.OK, "%v is kept as %q, %d", s, b, err)
		wantSeen(t, "Look", bay.Look(d, s.Head), api.Seen{Kind: api.SeenShard, Shard: s})
		wantSeen(t, "Glance", bay.Glance(d, s.Head), api.Seen{Kind: api.SeenShard, Shard: api.Shard{Head: s.Head}})
		wantKeys(t, d, []string{s.Key}, api.OK)
	}
}

// badShards are shards that may not be, each with the error of layer 8.
func badShards() []struct {
	shard api.Shard
	want  api.Errno
} {
	blocks := func(l ...[]byte) api.Shard {
		s := plainShard()
		s.Blocks = l
		return s
	}
	head := func(change func(h *api.Head)) api.Shard {
		s := plainShard()
		change(&s.Head)
		return s
	}
	return []struct {
		shard api.Shard
		want  api.Errno
	}{
		{api.Shard{}, api.ErrShape},
		{head(func(h *api.Head) { h.Shape.K = 0 }), api.ErrShape},
		{head(func(h *api.Head) { h.Shape.M = 3 }), api.ErrShape},
		{head(func(h *api.Head) { h.Shape = api.Shape{K: 200, M: 56, Block: 4} }), api.ErrShape},
		{head(func(h *api.Head) { h.Shape.Block = api.MaxBlock + 1 }), api.ErrShape},
		{head(func(h *api.Head) { h.Key = "" }), api.ErrKey},
		{head(func(h *api.Head) { h.Key = strings.Repeat("k", 256) }), api.ErrKey},
		{head(func(h *api.Head) { h.Size = -1 }), api.ErrArg},
		{head(func(h *api.Head) { h.Size = api.MaxObject + 1 }), api.ErrLarge},
		{head(func(h *api.Head) { h.Shape, h.Size = api.Shape{K: 1, M: 1, Block: 1}, api.MaxBlocks+1 }), api.ErrLarge},
		{head(func(h *api.Head) { h.Index = 3 }), api.ErrArg},
		{head(func(h *api.Head) { h.Index = -1 }), api.ErrArg},
		{head(func(h *api.Head) { h.Gen.Epoch = 0 }), api.ErrArg},
		{head(func(h *api.Head) { h.Gen.Count = api.MaxCount + 1 }), api.ErrArg},
		{head(func(h *api.Head) { h.Size = 16 }), api.ErrHead},
		{blocks(), api.ErrHead},
		{blocks([]byte{9, 8, 7, 6}), api.ErrHead},
		{blocks([]byte{9, 8, 7, 6}, []byte{5, 4}), api.ErrHead},
		{blocks([]byte{9, 8, 7, 6}, []byte{5}, nil), api.ErrHead},
		{blocks([]byte{9, 8, 7}, []byte{6, 5}), api.ErrHead},
	}
}

// P14.1: a shard that may not be is refused as layer 8 says, and nothing is called, whatever the drive would answer.
func TestStoreOfNoShard(t *testing.T) {
	for i, bad := range badShards() {
		for _, answer := range numbers {
			d := &spy{answers: slices.Repeat([]api.Errno{answer}, 6)}
			wantNumber(t, fmt.Sprintf("Store %d", i), bay.Store(d, bad.shard), bad.want)
			wantAsked(t, d, nil)
		}
		_, err := frame.Encode(bad.shard)
		wantNumber(t, "Encode", err, bad.want)
		wantNumber(t, fmt.Sprintf("Store %d", i), bay.Store(nil, bad.shard), api.ErrNil)
	}
}

// someFiles are what may stand under a key's name: the form, torn, lengthened, spoilt, another one's, with a head that may not be.
func someFiles() [][]byte {
	form := mustEncode(plainShard())
	files := [][]byte{nil, {}, {0}, []byte("junk"), make([]byte, 54), form, append(slices.Clone(form), 0), slices.Concat(form, form)}
	for _, n := range []int{1, 35, 36, 40, 41, 42, 45, 49, 53} {
		files = append(files, form[:n])
	}
	for _, at := range []int{0, 3, 4, 11, 12, 13, 14, 18, 22, 23, 27, 31, 32, 35, 36, 37, 40, 41, 44, 45, 48, 49, 50, 53} {
		b := slices.Clone(form)
		b[at] ^= 0x40
		files = append(files, b)
	}
	for _, s := range someShards() {
		files = append(files, mustEncode(s))
	}
	return files
}

// someWants are what may be looked for: near to the shard of chapter 8's examples in each part, and far from it.
func someWants() []api.Head {
	wants := append(nearWants(plainShard().Head), api.Head{}, api.Head{Key: "a"},
		with(func(h *api.Head) { h.Key = "b" }), with(func(h *api.Head) { h.Key = "A" }), with(func(h *api.Head) { h.Key = "a\x00" }),
		with(func(h *api.Head) { h.Store[0] = 0 }), with(func(h *api.Head) { h.Store[3] = 255 }),
		with(func(h *api.Head) { h.Shape = api.Shape{} }), with(func(h *api.Head) { h.Shape.K = -1 }), with(func(h *api.Head) { h.Shape.K += 256 }),
		with(func(h *api.Head) { h.Index = -1 }), with(func(h *api.Head) { h.Index += 256 }), with(func(h *api.Head) { h.Index = math.MaxInt }),
		with(func(h *api.Head) { h.Size, h.Gen = -5, api.Gen{} }),
	)
	for _, key := range append(noKeys(), someKeys()...) {
		wants = append(wants, with(func(h *api.Head) { h.Key = key }))
	}
	return wants
}

// P14.2, P14.3: of all bytes, all wants and all answers of Read: what the chapter's words say, and no other call.
func TestReadings(t *testing.T) {
	met := map[int]int{}
	for _, r := range readings() {
		for _, want := range someWants() {
			for _, b := range someFiles() {
				for _, err := range numbers {
					d := &spy{answers: []api.Errno{err}, files: map[string][]byte{nameOf(want.Key): b}}
					seen, asked := r.wordsOf(b, err, want)
					got := r.call(d, want)
					if !sameSeen(got, seen) {
						t.Fatalf("%s of %v = %v, not %v, of %q, %d", r.says, want, got, seen, b, err)
					}
					wantAsked(t, d, asked)
					met[got.Kind]++
				}
			}
			wantKind(t, r.says+" of no drive", r.call(nil, want), api.SeenSilent, api.OK)
		}
	}
	fatalUnless(t, len(met) == 4 && met[api.SeenShard] > 50, "the kinds were met %v times", met)
}

// P14.2, P14.3: what is shown, told one by one: each part of the want that counts, and those that say nothing.
func TestWants(t *testing.T) {
	s := plainShard()
	d := drive.Load(1000, []api.File{{Name: "o61", Data: mustEncode(s)}, {Name: "o62", Data: mustEncode(s)}})
	for _, r := range readings() {
		shown := api.Seen{Kind: api.SeenShard, Shard: s}
		if r.says == "Glance" {
			shown.Shard.Blocks = nil
		}
		for i, change := range []func(h *api.Head){
			func(h *api.Head) {},
			func(h *api.Head) { h.Size = 0 },
			func(h *api.Head) { h.Size = math.MinInt },
			func(h *api.Head) { h.Gen = api.Gen{} },
			func(h *api.Head) { h.Gen.Epoch = math.MaxInt },
			func(h *api.Head) { h.Gen.Count = 6 },
		} {
			wantSeen(t, fmt.Sprint(r.says, " ", i), r.call(d, with(change)), shown)
		}
		for i := range s.Store {
			wantKind(t, r.says+" with another Store", r.call(d, with(func(h *api.Head) { h.Store[i] = 2 })), api.SeenSpoilt, api.OK)
		}
		for i, change := range []func(h *api.Head){
			func(h *api.Head) { h.Shape.K = 3 },
			func(h *api.Head) { h.Shape.M = 2 },
			func(h *api.Head) { h.Shape.Block = 5 },
			func(h *api.Head) { h.Index = 1 },
			func(h *api.Head) { h.Index = 0 },
			func(h *api.Head) { h.Index = -2 },
			func(h *api.Head) { h.Key = "b" }, // its file is there, and is another key's
		} {
			wantKind(t, fmt.Sprint(r.says, " of another ", i), r.call(d, with(change)), api.SeenSpoilt, api.OK)
		}
		for _, key := range append(noKeys(), "c", "A", "aa") {
			wantKind(t, fmt.Sprintf("%s with Key %q", r.says, key), r.call(d, with(func(h *api.Head) { h.Key = key })), api.SeenNone, api.OK)
		}
	}
}

// P14.4: of every key and every answer of both calls what layer 13 says of the key's name; of no key nothing is called.
func TestDropAsksInOrder(t *testing.T) {
	for _, key := range append(noKeys(), someKeys()...) {
		everyAnswer(2, numbers, func(answers []api.Errno) {
			d := &spy{answers: answers, names: []string{"t", nameOf(key)}}
			asked, want := wordsOfDrop(key, answers)
			wantNumber(t, "Drop", bay.Drop(d, key), want)
			wantAsked(t, d, asked)
		})
		wantNumber(t, "Drop", bay.Drop(nil, key), api.ErrNil)
	}
}

// P14.4: what was dropped stays away, whatever stood there; all else is as it was.
func TestDropIsSafe(t *testing.T) {
	for _, key := range someKeys() {
		d := drive.Load(5000, []api.File{{Name: nameOf(key), Data: []byte("junk")}, {Name: key + "x", Data: []byte("one")}, {Name: nameOf("other"), Data: []byte("two")}, {Name: "t"}})
		wantNumber(t, "Drop", bay.Drop(d, key), api.OK)
		d.Crash(api.Fate{})
		fatalUnless(t, len(d.Image()) == 3 && d.Used() == 6, "Drop %q leaves %v", key, d.Image())
		wantKind(t, "Look", bay.Look(d, api.Head{Key: key}), api.SeenNone, api.OK)
		wantKind(t, "Look", bay.Look(d, api.Head{Key: "other"}), api.SeenSpoilt, api.OK)
		wantNumber(t, "Drop", bay.Drop(d, key), api.OK)
	}
}

// nameLists are what a drive may tell: in whatever order, twice, none, names that are near to objects'.
func nameLists() [][]string {
	long := nameOf(strings.Repeat("k", 255))
	return [][]string{
		nil, {}, {"o61"}, {"o61", "o62"}, {"o62", "o61"}, {"o61", "o61"}, {"o62", "l", "o61", "t", "o62", "o6162"},
		{"t", "l"}, {"", "o", "o6", "o616", "O61", "o6G", "o6A", "o6a", "61", "oo61", "o61 ", " o61", "\x00"},
		{long, long + "6b", long + "6", "o" + strings.Repeat("00", 255), "o" + strings.Repeat("00", 256)},
		{"off", "o00", "o0000", "off00", "oe9", "o7f", "o80", "o"}, strings.Fields("o63 o62 o61 o60 o5f o64 o65 o6100 o61ff"),
	}
}

// P14.5: of all lists and all answers of List.
func TestKeys(t *testing.T) {
	for _, names := range nameLists() {
		for _, err := range numbers {
			d := &spy{answers: []api.Errno{err}, names: names}
			if err == api.OK {
				wantKeys(t, d, keysOf(names), api.OK)
			} else {
				wantKeys(t, d, nil, err)
			}
			wantAsked(t, d, []string{"List"})
		}
	}
	wantKeys(t, &spy{names: nameLists()[6]}, []string{"a", "ab", "b"}, api.OK)
	wantKeys(t, &spy{names: nameLists()[8]}, []string{"j"}, api.OK)
	wantKeys(t, nil, nil, api.ErrNil)
}

// P14.5: on a drive: each key of which something stands, whatever that is.
func TestKeysOfADrive(t *testing.T) {
	d := drive.New(1 << 22)
	keys := someKeys()
	for i, key := range keys {
		if i%3 == 0 {
			wantNumber(t, "Write", atomic.Write(d, nameOf(key), []byte("junk")), api.OK)
		} else {
			wantNumber(t, "Store", bay.Store(d, filled(source(1), with(func(h *api.Head) { h.Key = key }))), api.OK)
		}
	}
	wantNumber(t, "Write", atomic.Write(d, naming.Label, []byte("label")), api.OK)
	wantNumber(t, "Create", d.Create(naming.Temp), api.OK)
	slices.Sort(keys)
	wantKeys(t, d, keys, api.OK)
	for len(keys) > 0 {
		wantNumber(t, "Drop", bay.Drop(d, keys[len(keys)/2]), api.OK)
		keys = slices.Delete(keys, len(keys)/2, len(keys)/2+1)
		wantKeys(t, d, keys, api.OK)
	}
}

// told is a key and what is shown of it.
type told struct {
	key  string
	seen api.Seen
}

// walk goes through the iterator, at most so many steps (-1: to its end).
func walk(all iter.Seq2[string, api.Seen], most int) []told {
	var l []told
	for key, seen := range all {
		l = append(l, told{key, seen})
		if len(l) == most {
			break
		}
	}
	return l
}

func wantTold(t *testing.T, all iter.Seq2[string, api.Seen], want []told) {
	t.Helper()
	got := walk(all, -1)
	same := slices.EqualFunc(got, want, func(a, b told) bool { return a.key == b.key && sameSeen(a.seen, b.seen) })
	fatalUnless(t, same, "the walk tells %v, not %v", got, want)
}

// wordsOfAll is P14.6: what a walk of so many steps at the most tells of a drive that answers so, and what it asks it.
func wordsOfAll(s *spy, want api.Head, most int) (l []told, asked []string) {
	asked = []string{"List"}
	if len(s.answers) > 0 && s.answers[0] != 0 {
		return nil, asked
	}
	for i, key := range keysOf(s.names) {
		if i == most {
			break
		}
		var err api.Errno
		if i+1 < len(s.answers) {
			err = s.answers[i+1]
		}
		want.Key = key
		seen, calls := reading{words: lookOf}.wordsOf(s.files[nameOf(key)], err, want)
		l, asked = append(l, told{key, seen}), append(asked, calls...)
	}
	return l, asked
}

// P14.6: whatever a drive tells and answers, at whatever step the walk is left.
func TestAllAsksInOrder(t *testing.T) {
	form := mustEncode(plainShard())
	r := source(145)
	for _, names := range nameLists() {
		for range 60 {
			files := map[string][]byte{"o61": form}
			for _, name := range names {
				if key := keysOf([]string{name}); len(key) == 1 {
					h := with(func(h *api.Head) { h.Key = key[0]; h.Index = pick(r, 2, 2, 1) })
					files[name] = pick(r, mustEncode(filled(r, h)), form, nil)
				}
			}
			answers := []api.Errno{pick(r, 0, 0, 0, 0, 0, pick(r, numbers...))}
			for range names {
				answers = append(answers, pick(r, 0, 0, api.ErrMissing, pick(r, numbers...)))
			}
			want := with(func(h *api.Head) { h.Key = pick(r, "a", "", "x", strings.Repeat("k", 300)) })
			most := 1 + r.Intn(len(names)+2)
			d := &spy{answers: answers, names: names, files: files}
			all := bay.All(d, want)
			wantAsked(t, d, nil)
			l, asked := wordsOfAll(d, want, most)
			got := walk(all, most)
			same := slices.EqualFunc(got, l, func(a, b told) bool { return a.key == b.key && sameSeen(a.seen, b.seen) })
			fatalUnless(t, same, "the walk tells %v, not %v", got, l)
			wantAsked(t, d, asked)
		}
	}
}

// shelf is a drive with shards of these keys at the place 2.
func shelf(t *testing.T, keys ...string) *drive.Drive {
	t.Helper()
	d := drive.New(1 << 20)
	for _, key := range keys {
		s := plainShard()
		s.Key = key
		wantNumber(t, "Store", bay.Store(d, s), api.OK)
	}
	return d
}

// keysTold are the keys of a walk.
func keysTold(all iter.Seq2[string, api.Seen]) []string {
	var keys []string
	for key := range all {
		keys = append(keys, key)
	}
	return keys
}

// P14.6: of a drive with a whole shard, a spoilt one, another place's, and files that are no objects'.
func TestAllOfADrive(t *testing.T) {
	d := shelf(t, "c", "a", "b", "\xff", "\x00")
	wantNumber(t, "Flip", d.Flip(nameOf("b"), 45, []byte{1}), api.OK)
	other := newer("d", 1, 3)
	wantNumber(t, "Store", bay.Store(d, other), api.OK)
	wantNumber(t, "Write", atomic.Write(d, naming.Label, []byte("label")), api.OK)
	wantNumber(t, "Create", d.Create(naming.Temp), api.OK)
	var want []told
	for _, key := range []string{"\x00", "a", "b", "c", "d", "\xff"} {
		s := plainShard()
		s.Key = key
		seen := api.Seen{Kind: api.SeenShard, Shard: s}
		if key == "b" || key == "d" {
			seen = api.Seen{Kind: api.SeenSpoilt}
		}
		want = append(want, told{key, seen})
	}
	for _, key := range append(noKeys(), "a", "d", "nowhere") {
		wantTold(t, bay.All(d, with(func(h *api.Head) { h.Key = key })), want)
	}
	wantTold(t, bay.All(drive.New(0), plainShard().Head), nil)
}

// P14.6: each key is looked at when its turn comes: what changes in the walk is seen of the keys that come, and of no key that was not told at the beginning.
func TestAllLooksInTurn(t *testing.T) {
	d := shelf(t, "a", "b", "c", "d")
	met := ""
	for key, seen := range bay.All(d, plainShard().Head) {
		met += fmt.Sprint(key, seen.Kind, " ")
		if key == "a" {
			s := plainShard()
			s.Key = "bb"
			wantNumber(t, "Store", bay.Store(d, s), api.OK)
			wantNumber(t, "Drop", bay.Drop(d, "c"), api.OK)
			wantNumber(t, "Flip", d.Flip(nameOf("d"), 0, []byte{1}), api.OK)
			wantNumber(t, "Drop", bay.Drop(d, "a"), api.OK)
		}
	}
	fatalUnless(t, met == "a2 b2 c1 d3 ", "the walk meets %s", met)
}

// P14.6: a drive that falls silent in a walk is told as silent, key by key; the walk goes on.
func TestAllOfASilentDrive(t *testing.T) {
	w := wound.New(shelf(t, "a", "b", "c"))
	w.Arm([]api.Fault{{At: 2, Kind: api.FaultIO}})
	met := ""
	for key, seen := range bay.All(w, plainShard().Head) {
		met += fmt.Sprint(key, seen.Kind, seen.Err, " ")
	}
	fatalUnless(t, met == "a2 error 0 b4 error 120 c2 error 0 " && w.Calls() == 4, "the walk meets %s with %d calls", met, w.Calls())
	met = ""
	for key, seen := range bay.All(w, plainShard().Head) {
		met += fmt.Sprint(key, seen.Kind, seen.Err, " ")
		w.Offline(true)
	}
	fatalUnless(t, met == "a2 error 0 b4 error 121 c4 error 121 ", "the walk meets %s", met)
	wantTold(t, bay.All(w, plainShard().Head), nil)
}

// P14.6: a walk that is left calls nothing further; each walk begins anew with what then stands, whatever became of those before it.
func TestWalksBeginAnew(t *testing.T) {
	w := wound.New(shelf(t, "a", "b", "c"))
	all := bay.All(w, plainShard().Head)
	for most := 1; most <= 3; most++ {
		w.Arm(nil)
		fatalUnless(t, len(walk(all, most)) == most && w.Calls() == 1+most, "a walk of %d steps makes %d calls", most, w.Calls())
	}
	fatalUnless(t, slices.Equal(keysTold(all), []string{"a", "b", "c"}), "the walk tells %q", keysTold(all))
	wantNumber(t, "Drop", bay.Drop(w, "b"), api.OK)
	fatalUnless(t, slices.Equal(keysTold(all), []string{"a", "c"}), "the walk tells %q", keysTold(all))
	w.Arm([]api.Fault{{At: 0, Kind: api.FaultIO}})
	fatalUnless(t, keysTold(all) == nil && w.Calls() == 1, "a walk whose List is refused makes %d calls", w.Calls())
	fatalUnless(t, slices.Equal(keysTold(all), []string{"a", "c"}), "the walk tells %q", keysTold(all))
}

// P14.6: walks through one iterator inside one another, and one that is pulled step by step, are each a walk of their own.
func TestWalksInsideOneAnother(t *testing.T) {
	all := bay.All(shelf(t, "a", "b", "c"), plainShard().Head)
	met := ""
	for a, seen := range all {
		for b := range all {
			if b > a {
				break
			}
			met += a + b + " "
		}
		fatalUnless(t, seen.Shard.Key == a, "%q is shown of %q", seen.Shard.Key, a)
	}
	fatalUnless(t, met == "aa ba bb ca cb cc ", "the walks meet %s", met)

	next, stop := iter.Pull2(all)
	for _, want := range []string{"a", "b"} {
		key, seen, is := next()
		fatalUnless(t, is && key == want && seen.Kind == api.SeenShard && seen.Shard.Key == key, "next = %q, %v, %v", key, seen, is)
	}
	stop()
	_, _, is := next()
	fatalUnless(t, !is, "a walk that was stopped goes on")
}

// Pointers that lead to no drive answer ErrNil themselves, and nothing panics.
func TestPointersToNoDrive(t *testing.T) {
	for _, d := range []api.Disk{(*drive.Drive)(nil), (*wound.Wound)(nil), &wound.Wound{}} {
		wantNumber(t, "Store", bay.Store(d, plainShard()), api.ErrNil)
		wantNumber(t, "Store", bay.Store(d, api.Shard{}), api.ErrShape)
		wantNumber(t, "Drop", bay.Drop(d, "a"), api.ErrNil)
		wantKind(t, "Look", bay.Look(d, plainShard().Head), api.SeenSilent, api.ErrNil)
		wantKind(t, "Glance", bay.Glance(d, plainShard().Head), api.SeenSilent, api.ErrNil)
		wantKeys(t, d, nil, api.ErrNil)
		wantTold(t, bay.All(d, plainShard().Head), nil)
	}
}

// Offline and without power everything is refused at the first call of the drive, and nothing is changed.
func TestSilentDrives(t *testing.T) {
	s := plainShard()
	for _, want := range []api.Errno{api.ErrOffline, api.ErrDown} {
		w := wound.New(shelf(t, "a"))
		w.Offline(want == api.ErrOffline)
		w.Power(want != api.ErrDown)
		wantNumber(t, "Store", bay.Store(w, newer("a", 2, 1)), want)
		wantNumber(t, "Drop", bay.Drop(w, "a"), want)
		wantKind(t, "Look", bay.Look(w, s.Head), api.SeenSilent, want)
		wantKind(t, "Glance", bay.Glance(w, s.Head), api.SeenSilent, want)
		wantKind(t, "Look of no key", bay.Look(w, api.Head{}), api.SeenNone, api.OK)
		wantKind(t, "Glance of no key", bay.Glance(w, api.Head{}), api.SeenNone, api.OK)
		wantNumber(t, "Drop of no key", bay.Drop(w, ""), api.ErrKey)
		wantKeys(t, w, nil, want)
		wantTold(t, bay.All(w, s.Head), nil)
		fatalUnless(t, w.Calls() == 0 && w.Pending() == 0 && len(w.Image()) == 1, "Calls %d, %d pending, %v", w.Calls(), w.Pending(), w.Image())
		w.Offline(false)
		w.Power(true)
		wantSeen(t, "Look", bay.Look(w, s.Head), api.Seen{Kind: api.SeenShard, Shard: s})
	}
}

// The numbers of the chapter's errors and kinds.
func TestErrors(t *testing.T) {
	got := []api.Errno{api.OK, api.ErrNil, api.ErrKey, api.ErrMissing}
	fatalUnless(t, slices.Equal(got, []api.Errno{0, 1, 90, 110}), "the errors are %v", got)
	shown := []int{api.SeenNone, api.SeenShard, api.SeenSpoilt, api.SeenSilent}
	fatalUnless(t, slices.Equal(shown, []int{1, 2, 3, 4}), "the kinds are %v", shown)
}

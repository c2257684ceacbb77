package parts_test

import (
	"fmt"
	"math"
	"slices"
	"strings"
	"testing"

	"cairn/api"
	"cairn/parts"
	"cairn/store"
)

// fresh are uploads of a new store of three drives, as in the chapter's examples.
func fresh(t *testing.T) *pair[*spy] {
	t.Helper()
	return paired(t, small(), func() []*spy { return spies(3) })
}

// laid are uploads with much in their store: of "film" the upload 1, with the parts 1 and 3, and 2, with none; of "song" the upload 3, with part 2, which was finished, and 4; of "cut" the upload 5, given up; a plain object "plain".
func laid(t *testing.T) *pair[*spy] {
	t.Helper()
	p := fresh(t)
	for n, key := range []string{"film", "film", "song", "song", "cut"} {
		a := p.number(t, call{op: "begin", key: key}, api.OK)
		fatalUnless(t, a.says == saying(n+1, api.Part{}, nil, nil, ""), "Begin = %v", a)
	}
	p.put(t, "film", 1, 3, "-end")
	p.put(t, "film", 1, 1, "start")
	p.put(t, "song", 3, 2, "la la la")
	p.put(t, "song", 4, 1, "other")
	p.put(t, "cut", 5, 7, "gone")
	p.number(t, call{op: "finish", key: "song", upload: 3, list: []api.Part{partOf(2, "la la la")}}, api.OK)
	p.number(t, call{op: "abort", key: "cut", upload: 5}, api.OK)
	p.plain(t, "plain", "hello")
	return p
}

// put puts a part that must be taken.
func (p *pair[S]) put(t *testing.T, key string, upload, number int, data string) {
	t.Helper()
	a := p.number(t, call{op: "put", key: key, upload: upload, number: number, data: data}, api.OK)
	fatalUnless(t, a.says == saying(0, partOf(number, data), nil, nil, ""), "Put = %v", a)
}

// plain puts something into both stores, beside the uploads.
func (p *pair[S]) plain(t *testing.T, key, data string) {
	t.Helper()
	p.each(func(s *store.Store, _ []S) {
		err := s.Put(key, []byte(data))
		fatalUnless(t, err == nil, "Put: %v", err)
	})
}

// away takes something out of both stores, beside the uploads.
func (p *pair[S]) away(t *testing.T, key string) {
	t.Helper()
	p.each(func(s *store.Store, _ []S) {
		err := s.Delete(key)
		fatalUnless(t, err == nil, "Delete: %v", err)
	})
}

// film is the list of parts of the upload 1 that was laid.
func film() []api.Part { return []api.Part{partOf(1, "start"), partOf(3, "-end")} }

// The chapter's examples, row by row.
func TestExamples(t *testing.T) {
	p := fresh(t)
	u := p.uploads
	begin := func(key string, want int, number api.Errno) {
		t.Helper()
		n, err := u.Begin(key)
		fatalUnless(t, n == want && err == number, "Begin %q = %d, %d", key, n, err)
	}
	put := func(key string, upload, number int, data string, want api.Part, no api.Errno) {
		t.Helper()
		got, err := u.Put(key, upload, number, []byte(data))
		fatalUnless(t, got == want && err == no, "Put %q %d %d = %v, %d", key, upload, number, got, err)
	}
	is := func(says string, err, want api.Errno) {
		t.Helper()
		fatalUnless(t, err == want, "%s = %d, not %d", says, err, want)
	}
	size := func(want int, no api.Errno) {
		t.Helper()
		n, err := u.Size("film")
		fatalUnless(t, n == want && err == no, "Size = %d, %d", n, err)
	}
	read := func(off, n int, want string, no api.Errno) {
		t.Helper()
		b, err := u.Read("film", off, n)
		fatalUnless(t, string(b) == want && err == no, "Read %d %d = %q, %d", off, n, b, err)
	}
	sweep := func(want int, no api.Errno) {
		t.Helper()
		n, err := u.Sweep()
		fatalUnless(t, n == want && err == no, "Sweep = %d, %d", n, err)
	}

	begin("film", 1, api.OK)
	begin("film", 2, api.OK)
	open, err := u.Open("film")
	fatalUnless(t, slices.Equal(open, []int{1, 2}) && err == api.OK, "Open = %v, %d", open, err)

	put("film", 1, 3, "-end", api.Part{Number: 3, Size: 4, Sum: partOf(3, "-end").Sum}, api.OK)
	put("film", 1, 1, "start", api.Part{Number: 1, Size: 5, Sum: partOf(1, "start").Sum}, api.OK)
	put("film", 1, 1, "x", api.Part{}, api.ErrExists)
	put("film", 9, 1, "x", api.Part{}, api.ErrUpload)
	put("song", 1, 1, "x", api.Part{}, api.ErrUpload)
	put("film", 1, 0, "x", api.Part{}, api.ErrArg)

	list, err := u.List("film", 1)
	fatalUnless(t, slices.Equal(list, film()) && err == api.OK, "List = %v, %d", list, err)

	is("Finish", u.Finish("film", 1, []api.Part{list[1], list[0]}), api.ErrArg)
	wrong := film()
	wrong[0].Sum++
	is("Finish", u.Finish("film", 1, wrong), api.ErrPart)
	size(0, api.ErrNotFound)
	read(0, 9, "", api.ErrNotFound)

	is("Finish", u.Finish("film", 1, list), api.OK)
	size(9, api.OK)
	read(3, 4, "rt-e", api.OK)

	is("Finish", u.Finish("film", 1, list), api.ErrUpload)
	is("Finish", u.Finish("film", 2, nil), api.ErrExists)
	is("Abort", u.Abort("film", 2), api.OK)
	keys := own(t, p.store)
	fatalUnless(t, slices.Equal(keys, []string{manifestKey("film"), numberKey(2), partKey(1, 1), partKey(1, 3)}), "the own keys are %q", keys)

	read(9, 1, "", api.OK)
	read(10, 0, "", api.ErrRange)
	sweep(0, api.OK)
	begin("\x00a", 0, api.ErrOwn)
	begin("", 0, api.ErrKey)

	p.mine[1].fate = func(int, string) (api.Errno, bool) { return api.ErrOffline, true }
	sweep(0, api.ErrDegraded)
	p.mine[1].fate = nil

	is("Delete", u.Delete("film"), api.OK)
	is("Delete", u.Delete("film"), api.ErrNotFound)
	sweep(0, api.OK)
	begin("film", 3, api.OK)
}

// P26.1: no uploads of no store; and two of one store are alike.
func TestNew(t *testing.T) {
	fatalUnless(t, parts.New(nil) == nil, "uploads of no store")
	p := laid(t)
	other := parts.New(p.store)
	fatalUnless(t, *other == *p.uploads, "two of one store differ")
	for i, c := range everyCall() {
		if i%2 == 0 {
			p.uploads, other = other, p.uploads
		}
		p.check(t, c)
	}
	fatalUnless(t, *other == *p.uploads && *parts.New(p.store) == *other, "something is kept from call to call")
}

// everyCall are calls of all kinds over what was laid: such as go well, and such as don't.
func everyCall() []call {
	return []call{
		{op: "begin", key: "new"},
		{op: "begin", key: "film"},
		{op: "put", key: "film", upload: 1, number: 2, data: "more"},
		{op: "put", key: "film", upload: 2, number: 10000},
		{op: "put", key: "film", upload: 1, number: 1, data: "x"},
		{op: "put", key: "film", upload: 3, number: 1, data: "x"},
		{op: "list", key: "film", upload: 1},
		{op: "list", key: "film", upload: 2},
		{op: "list", key: "song", upload: 3},
		{op: "open", key: "film"},
		{op: "open", key: "none"},
		{op: "size", key: "plain"},
		{op: "size", key: "song"},
		{op: "size", key: "film"},
		{op: "read", key: "plain", off: 1, n: 3},
		{op: "read", key: "plain", off: 9},
		{op: "read", key: "song", off: 2, n: 99},
		{op: "read", key: "song", off: 9, n: 1},
		{op: "read", key: "film", n: 1},
		{op: "finish", key: "song", upload: 4, list: []api.Part{partOf(1, "other")}},
		{op: "finish", key: "film", upload: 2, list: []api.Part{partOf(1, "start")}},
		{op: "finish", key: "film", upload: 1, list: film()[:1]},
		{op: "abort", key: "film", upload: 2},
		{op: "abort", key: "film", upload: 2},
		{op: "abort", key: "song", upload: 4},
		{op: "delete", key: "plain"},
		{op: "delete", key: "song"},
		{op: "delete", key: "none"},
		{op: "sweep"},
	}
}

// Uploads that are not there answer ErrNil to everything, and so does the store that a zero value has not.
func TestNoUploads(t *testing.T) {
	var none *parts.Uploads
	for _, op := range everyOp {
		for _, key := range []string{"a", "", "\x00", strings.Repeat("k", 254)} {
			for _, bad := range []int{-1, 0, 1, 10001} {
				got := ask(none, call{op: op, key: key, upload: bad, number: bad, off: bad, n: bad, list: []api.Part{{Number: bad}}})
				fatalUnless(t, got == answer{nothing, api.ErrNil}, "%s = %v", op, got)
			}
		}
		got := ask(&parts.Uploads{}, call{op: op, key: "a", upload: 1, number: 1})
		fatalUnless(t, got == answer{nothing, api.ErrNil}, "%s = %v", op, got)
	}
}

// Which keys may be, ahead of all other arguments; then no drive is called.
func TestKeysThatMayNotBe(t *testing.T) {
	p := laid(t)
	long := strings.Repeat("\xfe", 253)
	for _, op := range everyOp[:len(everyOp)-1] {
		for _, bad := range []int{-1, 0} {
			c := call{op: op, upload: bad, number: bad, off: bad - 1, n: bad, list: []api.Part{{Number: bad, Size: -1}}}
			for _, x := range []struct {
				key  string
				want api.Errno
			}{
				{"", api.ErrKey}, {long + "k", api.ErrKey}, {"\x00" + long, api.ErrKey}, {"\x00" + long[1:], api.ErrOwn}, {"\x00", api.ErrOwn}, {manifestKey("song"), api.ErrOwn},
			} {
				c.key = x.key
				p.asked(t, c, x.want)
			}
		}
	}
	for i, key := range []string{long, "a", "\x01", "a\x00", "\xff"} { // and these may
		n := 6 + i
		a := p.number(t, call{op: "begin", key: key}, api.OK)
		fatalUnless(t, a.says == saying(n, api.Part{}, nil, nil, ""), "Begin = %v", a)
		p.put(t, key, n, 1, "some")
		p.number(t, call{op: "finish", key: key, upload: n, list: []api.Part{partOf(1, "some")}}, api.OK)
		a = p.number(t, call{op: "read", key: key, off: 1, n: 2}, api.OK)
		fatalUnless(t, a.says == saying(0, api.Part{}, nil, nil, "om"), "Read = %v", a)
		p.number(t, call{op: "delete", key: key}, api.OK)
	}
}

// The order of errors: an argument that is refused ahead of the record's being asked, and the upload's number where it is asked; then no drive is called.
func TestArguments(t *testing.T) {
	p := laid(t)
	for _, upload := range []int{1, 2, 0, -1, math.MinInt, math.MaxInt} {
		for _, number := range []int{0, -1, 10001, math.MinInt, math.MaxInt} {
			p.asked(t, call{op: "put", key: "film", upload: upload, number: number, data: "x"}, api.ErrArg)
		}
		for _, list := range badLists() {
			p.asked(t, call{op: "finish", key: "film", upload: upload, list: list}, api.ErrArg)
		}
		p.asked(t, call{op: "finish", key: "film", upload: upload, list: tooBig(1)}, api.ErrBig)
		p.asked(t, call{op: "finish", key: "film", upload: upload, list: tooBig(1808)}, api.ErrBig)
		both := tooBig(3)
		both[len(both)-1].Number = 1
		p.asked(t, call{op: "finish", key: "film", upload: upload, list: both}, api.ErrArg)
	}
	for _, upload := range []int{0, -1, math.MinInt, math.MaxInt, 1 << 32, 1<<32 + 1} {
		for _, c := range []call{
			{op: "put", number: 1, data: "x"}, {op: "put", number: 10000}, {op: "list"}, {op: "finish"}, {op: "finish", list: film()}, {op: "abort"},
		} {
			c.key, c.upload = "film", upload
			p.asked(t, c, api.ErrUpload)
		}
	}
	for _, bad := range [][2]int{{-1, 0}, {0, -1}, {-1, -1}, {math.MinInt, math.MaxInt}, {0, math.MinInt}} {
		for _, key := range []string{"plain", "song", "none"} {
			p.asked(t, call{op: "read", key: key, off: bad[0], n: bad[1]}, api.ErrArg)
		}
	}
}

// badLists are lists of parts that may not be.
func badLists() [][]api.Part {
	return [][]api.Part{
		{{Number: 0}}, {{Number: -1}}, {{Number: 10001}}, {{Number: math.MaxInt}}, {{Number: math.MinInt}},
		{{Number: 1, Size: -1}}, {{Number: 1, Size: api.MaxObject + 1}}, {{Number: 1, Size: math.MaxInt}}, {{Number: 1, Size: math.MinInt}},
		{{Number: 1}, {Number: 1}}, {{Number: 2}, {Number: 1}}, {{Number: 1}, {Number: 3}, {Number: 2}}, {{Number: 1}, {Number: 2}, {Number: 2}},
		{{Number: 9999}, {Number: 10000}, {Number: 10001}}, {{Number: 1}, {Number: 2, Size: -1}}, {{Number: 1}, {Number: 0}},
		{{Number: 1, Size: math.MaxInt}, {Number: 2, Size: math.MaxInt}},
	}
}

// tooBig is a list of as many greatest parts as MaxBig holds, and of one that has so many bytes more, or of as many parts more.
func tooBig(more int) []api.Part {
	var l []api.Part
	for i := range 1 << 13 {
		l = append(l, api.Part{Number: i + 1, Size: 1 << 20})
	}
	for len(l) < 1<<13+more && len(l) < 10000 {
		l = append(l, api.Part{Number: len(l) + 1, Size: 1})
	}
	return l
}

// P26.5: as many bytes as MaxBig are looked for, one more is refused.
func TestBig(t *testing.T) {
	p := laid(t)
	p.asked(t, call{op: "finish", key: "film", upload: 9, list: tooBig(0)}, api.ErrUpload, fmt.Sprintf("get %q 200", recordKey(9)))
	p.asked(t, call{op: "finish", key: "film", upload: 9, list: tooBig(1)}, api.ErrBig)
	var all []api.Part
	for i := range 10000 {
		all = append(all, api.Part{Number: i + 1})
	}
	p.asked(t, call{op: "finish", key: "film", upload: 9, list: all}, api.ErrUpload, fmt.Sprintf("get %q 200", recordKey(9)))
}

// The record is asked: an upload that is there, of this key, and no other one.
func TestRecord(t *testing.T) {
	p := laid(t)
	for _, x := range []struct {
		key    string
		upload int
		number int
	}{
		{"film", 9, 200}, {"film", 3, 200}, {"film", 4, 0}, {"song", 1, 0}, {"song", 3, 200}, {"cut", 5, 200}, {"fil", 1, 0}, {"films", 1, 0}, {"Film", 1, 0}, {"film", 1<<32 - 1, 200},
	} {
		for _, c := range []call{
			{op: "put", number: 9, data: "x"}, {op: "list"}, {op: "finish"}, {op: "finish", list: film()}, {op: "abort"},
		} {
			c.key, c.upload = x.key, x.upload
			p.asked(t, c, api.ErrUpload, fmt.Sprintf("get %q %d", recordKey(x.upload), x.number))
		}
	}
}

// P26.2: the calls of the store, in their order; the greatest number stays.
func TestBegin(t *testing.T) {
	p := fresh(t)
	p.asked(t, call{op: "begin", key: "a"}, api.OK, `list "\x00n" 0`, fmt.Sprintf("put %q 0", numberKey(1)), fmt.Sprintf("put %q 0", recordKey(1)))
	p.asked(t, call{op: "begin", key: "b"}, api.OK, `list "\x00n" 0`, fmt.Sprintf("put %q 0", numberKey(2)), fmt.Sprintf("put %q 0", recordKey(2)), fmt.Sprintf("delete %q 0", numberKey(1)))
	for _, n := range []int{255, 65535, 1<<24 - 1, 1<<31 - 1, 1<<32 - 2} { // as if so many had been begun
		p.plain(t, numberKey(n), "")
		a := p.number(t, call{op: "begin", key: "a"}, api.OK)
		fatalUnless(t, a.says == saying(n+1, api.Part{}, nil, nil, ""), "Begin = %v", a)
		b, err := p.store.Get(recordKey(n + 1))
		fatalUnless(t, string(b) == "a" && err == nil, "the record is %q, %v", b, err)
		b, err = p.store.Get(numberKey(n + 1))
		fatalUnless(t, len(b) == 0 && err == nil, "the number is %q, %v", b, err)
		p.hand.s.Get(recordKey(n + 1))
		p.hand.s.Get(numberKey(n + 1))
		p.alike(t, "Get")
		p.put(t, "a", n+1, 1, "x")
	}
	p.asked(t, call{op: "begin", key: "a"}, api.ErrWorn, `list "\x00n" 0`)
	p.asked(t, call{op: "begin", key: "a"}, api.ErrWorn, `list "\x00n" 0`)
}

// P26.2: many numbers that stand still are taken away, as they rise, all but the new one.
func TestBeginTakesOldNumbersAway(t *testing.T) {
	p := fresh(t)
	want := []string{`list "\x00n" 0`, fmt.Sprintf("put %q 0", numberKey(301)), fmt.Sprintf("put %q 0", recordKey(301))}
	for _, n := range []int{1, 2, 255, 256, 300} {
		p.plain(t, numberKey(n), "")
		want = append(want, fmt.Sprintf("delete %q 0", numberKey(n)))
	}
	p.asked(t, call{op: "begin", key: "a"}, api.OK, want...)
	keys := own(t, p.store)
	fatalUnless(t, slices.Equal(keys, []string{numberKey(301), recordKey(301)}), "the own keys are %q", keys)
}

// P26.3: the greatest part, one more byte, and none; the same part twice.
func TestPut(t *testing.T) {
	p := paired(t, api.Shape{K: 2, M: 1, Block: 65536}, func() []*spy { return spies(3) })
	p.number(t, call{op: "begin", key: "a"}, api.OK)
	most := strings.Repeat("x", api.MaxObject)
	p.put(t, "a", 1, 1, most)
	p.put(t, "a", 1, 2, "")
	p.put(t, "a", 1, 10000, "\x00\xff")
	p.number(t, call{op: "put", key: "a", upload: 1, number: 3, data: most + "x"}, api.ErrLarge)
	p.number(t, call{op: "put", key: "a", upload: 1, number: 1, data: most + "x"}, api.ErrLarge)
	p.number(t, call{op: "put", key: "a", upload: 1, number: 1, data: most}, api.ErrExists)
	p.asked(t, call{op: "put", key: "a", upload: 1, number: 2, data: "x"}, api.ErrExists, fmt.Sprintf("get %q 0", recordKey(1)), fmt.Sprintf("put %q 190", partKey(1, 2)))
	list := []api.Part{partOf(1, most), partOf(2, ""), partOf(10000, "\x00\xff")}
	a := p.number(t, call{op: "list", key: "a", upload: 1}, api.OK)
	fatalUnless(t, a.says == saying(0, api.Part{}, list, nil, ""), "List = %v", a)
	p.number(t, call{op: "finish", key: "a", upload: 1, list: list}, api.OK)
	a = p.number(t, call{op: "size", key: "a"}, api.OK)
	fatalUnless(t, a.says == saying(api.MaxObject+2, api.Part{}, nil, nil, ""), "Size = %v", a)
	a = p.number(t, call{op: "read", key: "a", off: api.MaxObject - 1, n: math.MaxInt}, api.OK)
	fatalUnless(t, a.says == saying(0, api.Part{}, nil, nil, "x\x00\xff"), "Read = %v", a)
}

// P26.4: the parts rise by their numbers, in whatever order they were put, and none of another upload is among them.
func TestList(t *testing.T) {
	p := laid(t)
	var want []api.Part
	for _, n := range []int{256, 2, 10000, 1, 255, 258, 9999, 65} {
		data := fmt.Sprint("part ", n)
		p.put(t, "film", 2, n, data)
		want = append(want, partOf(n, data))
	}
	slices.SortFunc(want, func(a, b api.Part) int { return a.Number - b.Number })
	a := p.number(t, call{op: "list", key: "film", upload: 2}, api.OK)
	fatalUnless(t, a.says == saying(0, api.Part{}, want, nil, ""), "List = %v", a)
	a = p.number(t, call{op: "list", key: "film", upload: 1}, api.OK)
	fatalUnless(t, a.says == saying(0, api.Part{}, film(), nil, ""), "List = %v", a)
	p.asked(t, call{op: "list", key: "film", upload: 1}, api.OK, fmt.Sprintf("get %q 0", recordKey(1)), fmt.Sprintf("list %q 0", partsKey(1)), fmt.Sprintf("get %q 0", partKey(1, 1)), fmt.Sprintf("get %q 0", partKey(1, 3)))
}

// P26.5: the calls of the store, in their order, where all goes well.
func TestFinish(t *testing.T) {
	p := laid(t)
	p.put(t, "film", 1, 2, "not this one")
	p.put(t, "film", 1, 10000, "nor this one")
	p.asked(t, call{op: "finish", key: "film", upload: 1, list: film()}, api.OK,
		fmt.Sprintf("get %q 0", recordKey(1)), `stat "film" 200`, fmt.Sprintf("get %q 200", manifestKey("film")),
		fmt.Sprintf("get %q 0", partKey(1, 1)), fmt.Sprintf("get %q 0", partKey(1, 3)),
		fmt.Sprintf("put %q 0", markKey(1)), fmt.Sprintf("put %q 0", manifestKey("film")),
		fmt.Sprintf("list %q 0", partsKey(1)), fmt.Sprintf("delete %q 0", partKey(1, 2)), fmt.Sprintf("delete %q 0", partKey(1, 10000)),
		fmt.Sprintf("delete %q 0", recordKey(1)), fmt.Sprintf("delete %q 0", markKey(1)))
	b, err := p.store.Get(manifestKey("film"))
	fatalUnless(t, string(b) == manifestOf(1, "film", film()...) && err == nil, "the manifest is %q, %v", b, err)
}

// A manifest's bytes, of many parts too.
func TestManifestBytes(t *testing.T) {
	for _, many := range []int{0, 1, 127, 128, 300} {
		p := fresh(t)
		p.number(t, call{op: "begin", key: "many"}, api.OK)
		var list []api.Part
		var all string
		for i := range many {
			data := strings.Repeat(fmt.Sprint(i), i%3)
			p.put(t, "many", 1, 33*i+1, data)
			list = append(list, partOf(33*i+1, data))
			all += data
		}
		p.number(t, call{op: "finish", key: "many", upload: 1, list: list}, api.OK)
		b, err := p.store.Get(manifestKey("many"))
		fatalUnless(t, string(b) == manifestOf(1, "many", list...) && err == nil, "the manifest is %q, %v", b, err)
		p.hand.s.Get(manifestKey("many"))
		p.alike(t, "Get")
		a := p.number(t, call{op: "read", key: "many", n: math.MaxInt}, api.OK)
		fatalUnless(t, a.says == saying(0, api.Part{}, nil, nil, all), "Read = %v", a)
	}
}

// P26.5: parts that are not as the list says; then nothing is written.
func TestFinishOfWrongParts(t *testing.T) {
	wrong := func(change func(l []api.Part)) []api.Part {
		l := film()
		change(l)
		return l
	}
	one := fmt.Sprintf("get %q 0", partKey(1, 1))
	for _, x := range []struct {
		list  []api.Part
		calls []string
	}{
		{wrong(func(l []api.Part) { l[0].Sum++ }), []string{one}},
		{wrong(func(l []api.Part) { l[0].Size++ }), []string{one}},
		{wrong(func(l []api.Part) { l[0].Size-- }), []string{one}},
		{wrong(func(l []api.Part) { l[0] = partOf(1, "starT") }), []string{one}},
		{wrong(func(l []api.Part) { l[1].Sum ^= 1 << 31 }), []string{one, fmt.Sprintf("get %q 0", partKey(1, 3))}},
		{wrong(func(l []api.Part) { l[1].Number = 4 }), []string{one, fmt.Sprintf("get %q 200", partKey(1, 4))}},
		{wrong(func(l []api.Part) { l[1].Number = 2 }), []string{one, fmt.Sprintf("get %q 200", partKey(1, 2))}},
		{append(film(), partOf(10000, "")), []string{one, fmt.Sprintf("get %q 0", partKey(1, 3)), fmt.Sprintf("get %q 200", partKey(1, 10000))}},
	} {
		p := laid(t)
		calls := append([]string{fmt.Sprintf("get %q 0", recordKey(1)), `stat "film" 200`, fmt.Sprintf("get %q 200", manifestKey("film"))}, x.calls...)
		p.asked(t, call{op: "finish", key: "film", upload: 1, list: x.list}, api.ErrPart, calls...)
		p.number(t, call{op: "finish", key: "film", upload: 1, list: film()}, api.OK)
	}
}

// P26.5: an object that stands there already, plain or in parts.
func TestFinishWhereOneStands(t *testing.T) {
	p := laid(t)
	p.asked(t, call{op: "finish", key: "song", upload: 4, list: []api.Part{partOf(9, "is not there")}}, api.ErrExists,
		fmt.Sprintf("get %q 0", recordKey(4)), `stat "song" 200`, fmt.Sprintf("get %q 0", manifestKey("song")))
	p.plain(t, "film", "plain")
	p.asked(t, call{op: "finish", key: "film", upload: 1, list: []api.Part{partOf(9, "is not there")}}, api.ErrExists, fmt.Sprintf("get %q 0", recordKey(1)), `stat "film" 0`)
	p.away(t, "film")
	p.number(t, call{op: "finish", key: "film", upload: 1, list: film()}, api.OK)
}

// halfway are uploads of which the Finish of the upload 1 of "film" came to this: its mark, and maybe its manifest, stand, and its record still.
func halfway(t *testing.T, manifest bool) *pair[*spy] {
	t.Helper()
	p := laid(t)
	p.put(t, "film", 1, 2, "not this one")
	p.plain(t, markKey(1), manifestOf(1, "film", film()...))
	if manifest {
		p.plain(t, manifestKey("film"), manifestOf(1, "film", film()...))
	}
	p.alike(t, "halfway")
	return p
}

// P26.5: where the mark stands: the same one goes on, another one doesn't.
func TestFinishWithAMark(t *testing.T) {
	asked := []string{
		fmt.Sprintf("get %q 0", recordKey(1)), `stat "film" 200`, fmt.Sprintf("get %q 200", manifestKey("film")),
		fmt.Sprintf("get %q 0", partKey(1, 1)), fmt.Sprintf("get %q 0", partKey(1, 3)),
		fmt.Sprintf("put %q 190", markKey(1)), "heal 0", fmt.Sprintf("get %q 0", markKey(1)),
	}
	p := halfway(t, false)
	p.asked(t, call{op: "finish", key: "film", upload: 1, list: film()}, api.OK, append(asked,
		fmt.Sprintf("put %q 0", manifestKey("film")), fmt.Sprintf("list %q 0", partsKey(1)), fmt.Sprintf("delete %q 0", partKey(1, 2)),
		fmt.Sprintf("delete %q 0", recordKey(1)), fmt.Sprintf("delete %q 0", markKey(1)))...)
	p.number(t, call{op: "read", key: "film", n: 99}, api.OK)

	for _, other := range [][]api.Part{film()[:1], append(film(), partOf(7, "")), {partOf(1, "start"), partOf(2, "")}, nil} {
		p := laid(t)
		p.plain(t, markKey(1), manifestOf(1, "film", other...))
		p.asked(t, call{op: "finish", key: "film", upload: 1, list: film()}, api.ErrExists, asked...)
	}
	p = halfway(t, false)
	p.mine[2].fate, p.theirs[2].fate = offline, offline
	p.number(t, call{op: "finish", key: "film", upload: 1, list: film()}, api.ErrDegraded)
}

func offline(int, string) (api.Errno, bool) { return api.ErrOffline, true }

// P26.5: where the manifest stands, it is settled by a healing; and then what it lists stays, whatever the list of the call says.
func TestFinishWithAManifest(t *testing.T) {
	asked := []string{
		fmt.Sprintf("get %q 0", recordKey(1)), `stat "film" 200`, fmt.Sprintf("get %q 0", manifestKey("film")), "heal 0", fmt.Sprintf("get %q 0", manifestKey("film")),
		fmt.Sprintf("list %q 0", partsKey(1)), fmt.Sprintf("delete %q 0", partKey(1, 2)), fmt.Sprintf("delete %q 0", recordKey(1)), fmt.Sprintf("delete %q 0", markKey(1)),
	}
	for _, list := range [][]api.Part{film(), film()[:1], {partOf(2, "not this one")}, {partOf(8, "is not there")}, nil} {
		p := halfway(t, true)
		p.asked(t, call{op: "finish", key: "film", upload: 1, list: list}, api.OK, asked...)
		a := p.number(t, call{op: "read", key: "film", n: 99}, api.OK)
		fatalUnless(t, a.says == saying(0, api.Part{}, nil, nil, "start-end"), "Read = %v", a)
	}
	p := halfway(t, true)
	p.mine[2].fate, p.theirs[2].fate = offline, offline
	p.number(t, call{op: "finish", key: "film", upload: 1, list: film()}, api.ErrDegraded)
	p.mine[2].fate, p.theirs[2].fate = nil, nil
	p.number(t, call{op: "finish", key: "film", upload: 1, list: film()}, api.OK)
}

// P26.6: the calls of the store, in their order: without a mark, with one, and where the object is there.
func TestAbort(t *testing.T) {
	p := laid(t)
	p.asked(t, call{op: "abort", key: "film", upload: 1}, api.OK,
		fmt.Sprintf("get %q 0", recordKey(1)), fmt.Sprintf("get %q 200", markKey(1)), fmt.Sprintf("get %q 200", manifestKey("film")), fmt.Sprintf("delete %q 0", recordKey(1)),
		fmt.Sprintf("list %q 0", partsKey(1)), fmt.Sprintf("delete %q 0", partKey(1, 1)), fmt.Sprintf("delete %q 0", partKey(1, 3)))
	p.asked(t, call{op: "abort", key: "film", upload: 1}, api.ErrUpload, fmt.Sprintf("get %q 200", recordKey(1)))
	p.asked(t, call{op: "abort", key: "song", upload: 4}, api.OK,
		fmt.Sprintf("get %q 0", recordKey(4)), fmt.Sprintf("get %q 200", markKey(4)), fmt.Sprintf("get %q 0", manifestKey("song")), fmt.Sprintf("delete %q 0", recordKey(4)),
		fmt.Sprintf("list %q 0", partsKey(4)), fmt.Sprintf("delete %q 0", partKey(4, 1)))
	a := p.number(t, call{op: "read", key: "song", n: 99}, api.OK)
	fatalUnless(t, a.says == saying(0, api.Part{}, nil, nil, "la la la"), "Read = %v", a)

	p = halfway(t, false)
	p.asked(t, call{op: "abort", key: "film", upload: 1}, api.OK,
		fmt.Sprintf("get %q 0", recordKey(1)), fmt.Sprintf("get %q 0", markKey(1)), "heal 0", fmt.Sprintf("get %q 200", manifestKey("film")),
		fmt.Sprintf("delete %q 0", recordKey(1)), fmt.Sprintf("delete %q 0", markKey(1)),
		fmt.Sprintf("list %q 0", partsKey(1)), fmt.Sprintf("delete %q 0", partKey(1, 1)), fmt.Sprintf("delete %q 0", partKey(1, 2)), fmt.Sprintf("delete %q 0", partKey(1, 3)))
	p.number(t, call{op: "finish", key: "film", upload: 1, list: film()}, api.ErrUpload)

	p = halfway(t, true)
	p.asked(t, call{op: "abort", key: "film", upload: 1}, api.ErrExists,
		fmt.Sprintf("get %q 0", recordKey(1)), fmt.Sprintf("get %q 0", markKey(1)), "heal 0", fmt.Sprintf("get %q 0", manifestKey("film")))
	p.away(t, markKey(1)) // its mark may be gone already
	p.asked(t, call{op: "abort", key: "film", upload: 1}, api.ErrExists,
		fmt.Sprintf("get %q 0", recordKey(1)), fmt.Sprintf("get %q 200", markKey(1)), fmt.Sprintf("get %q 0", manifestKey("film")))

	p = halfway(t, false)
	p.mine[0].fate, p.theirs[0].fate = offline, offline
	p.number(t, call{op: "abort", key: "film", upload: 1}, api.ErrDegraded)
}

// P26.7: the numbers of those that keep this key, and no other one.
func TestOpen(t *testing.T) {
	p := laid(t)
	for key, want := range map[string][]int{"film": {1, 2}, "song": {4}, "cut": nil, "plain": nil, "fil": nil, "films": nil} {
		a := p.number(t, call{op: "open", key: key}, api.OK)
		fatalUnless(t, a.says == saying(0, api.Part{}, nil, want, ""), "Open %q = %v", key, a)
	}
	p.asked(t, call{op: "open", key: "song"}, api.OK, `list "\x00u" 0`, fmt.Sprintf("get %q 0", recordKey(1)), fmt.Sprintf("get %q 0", recordKey(2)), fmt.Sprintf("get %q 0", recordKey(4)))
	for range 300 {
		p.number(t, call{op: "begin", key: "song"}, api.OK)
	}
	var want []int
	for n := 4; n <= 305; n++ {
		if n != 5 {
			want = append(want, n)
		}
	}
	a := p.number(t, call{op: "open", key: "song"}, api.OK)
	fatalUnless(t, a.says == saying(0, api.Part{}, nil, want, ""), "Open = %v", a)
}

// wide are uploads of which "wide" was finished of parts of these bytes; their numbers are 1, 4, 7, ..
func wide(t *testing.T, texts ...string) *pair[*spy] {
	t.Helper()
	p := laid(t)
	p.number(t, call{op: "begin", key: "wide"}, api.OK)
	var list []api.Part
	for i, text := range texts {
		p.put(t, "wide", 6, 3*i+1, text)
		list = append(list, partOf(3*i+1, text))
	}
	p.number(t, call{op: "finish", key: "wide", upload: 6, list: list}, api.OK)
	return p
}

// P26.8, P26.9: each piece of an object in parts is just that piece, and only the parts are asked that have a byte of it.
func TestRead(t *testing.T) {
	for _, texts := range [][]string{{"start", "-end"}, {"", "abc", "", "", "d", ""}, {""}, {}, {"a", "b", "c"}} {
		p := wide(t, texts...)
		whole := strings.Join(texts, "")
		a := p.number(t, call{op: "size", key: "wide"}, api.OK)
		fatalUnless(t, a.says == saying(len(whole), api.Part{}, nil, nil, ""), "Size = %v", a)
		for off := range len(whole) + 3 {
			for _, n := range []int{0, 1, 2, 3, 4, 5, 6, 9, math.MaxInt} {
				c := call{op: "read", key: "wide", off: off, n: n}
				if off > len(whole) {
					p.asked(t, c, api.ErrRange, fmt.Sprintf("range %q %d %d 200", "wide", off, n), fmt.Sprintf("get %q 0", manifestKey("wide")))
					continue
				}
				a := p.number(t, c, api.OK)
				end := off + min(n, len(whole)-off)
				fatalUnless(t, a.says == saying(0, api.Part{}, nil, nil, whole[off:end]), "Read %d %d = %v", off, n, a)
			}
		}
		p.number(t, call{op: "read", key: "wide", off: math.MaxInt, n: math.MaxInt}, api.ErrRange)
	}
	p := wide(t, "start", "", "-", "end")
	p.asked(t, call{op: "read", key: "wide", off: 3, n: 4}, api.OK, `range "wide" 3 4 200`, fmt.Sprintf("get %q 0", manifestKey("wide")),
		fmt.Sprintf("range %q 3 2 0", partKey(6, 1)), fmt.Sprintf("range %q 0 1 0", partKey(6, 7)), fmt.Sprintf("range %q 0 1 0", partKey(6, 10)))
	p.asked(t, call{op: "read", key: "wide", off: 5, n: 1}, api.OK, `range "wide" 5 1 200`, fmt.Sprintf("get %q 0", manifestKey("wide")), fmt.Sprintf("range %q 0 1 0", partKey(6, 7)))
	p.asked(t, call{op: "read", key: "wide", off: 9, n: 1}, api.OK, `range "wide" 9 1 200`, fmt.Sprintf("get %q 0", manifestKey("wide")))
	p.asked(t, call{op: "size", key: "wide"}, api.OK, `stat "wide" 200`, fmt.Sprintf("get %q 0", manifestKey("wide")))
	p.asked(t, call{op: "size", key: "none"}, api.ErrNotFound, `stat "none" 200`, fmt.Sprintf("get %q 200", manifestKey("none")))
	p.asked(t, call{op: "read", key: "none"}, api.ErrNotFound, `range "none" 0 0 200`, fmt.Sprintf("get %q 200", manifestKey("none")))
}

// P26.8, P26.9: a plain object is told ahead of one in parts.
func TestPlainObjects(t *testing.T) {
	p := wide(t, "in ", "parts")
	p.asked(t, call{op: "size", key: "plain"}, api.OK, `stat "plain" 0`)
	p.asked(t, call{op: "read", key: "plain", off: 1, n: 3}, api.OK, `range "plain" 1 3 0`)
	p.asked(t, call{op: "read", key: "plain", off: 6, n: 3}, api.ErrRange, `range "plain" 6 3 201`)
	p.plain(t, "wide", "plainly")
	for _, x := range []struct{ size, read string }{{saying(7, api.Part{}, nil, nil, ""), "plainly"}, {saying(8, api.Part{}, nil, nil, ""), "in parts"}} {
		a := p.number(t, call{op: "size", key: "wide"}, api.OK)
		fatalUnless(t, a.says == x.size, "Size = %v", a)
		a = p.number(t, call{op: "read", key: "wide", n: 99}, api.OK)
		fatalUnless(t, a.says == saying(0, api.Part{}, nil, nil, x.read), "Read = %v", a)
		p.number(t, call{op: "delete", key: "wide"}, api.OK)
	}
	p.number(t, call{op: "size", key: "wide"}, api.ErrNotFound)
}

// P26.9: a part that is gone, or ends ahead of what is asked of it.
func TestReadOfPartsThatAreGone(t *testing.T) {
	p := wide(t, "start", "-", "end")
	p.away(t, partKey(6, 4))
	p.asked(t, call{op: "read", key: "wide", off: 4, n: 4}, api.ErrPart, `range "wide" 4 4 200`, fmt.Sprintf("get %q 0", manifestKey("wide")),
		fmt.Sprintf("range %q 4 1 0", partKey(6, 1)), fmt.Sprintf("range %q 0 1 200", partKey(6, 4)))
	p.number(t, call{op: "read", key: "wide", n: 5}, api.OK)
	p.away(t, partKey(6, 7))
	p.plain(t, partKey(6, 7), "e")
	p.number(t, call{op: "read", key: "wide", off: 8, n: 4}, api.ErrPart)
}

// P26.10: the calls of the store, in their order.
func TestDelete(t *testing.T) {
	p := wide(t, "start", "", "-end")
	p.asked(t, call{op: "delete", key: "wide"}, api.OK, `delete "wide" 200`, fmt.Sprintf("get %q 0", manifestKey("wide")), fmt.Sprintf("delete %q 0", manifestKey("wide")),
		fmt.Sprintf("delete %q 200", recordKey(6)), fmt.Sprintf("delete %q 200", markKey(6)),
		fmt.Sprintf("delete %q 0", partKey(6, 1)), fmt.Sprintf("delete %q 0", partKey(6, 4)), fmt.Sprintf("delete %q 0", partKey(6, 7)))
	p.asked(t, call{op: "delete", key: "wide"}, api.ErrNotFound, `delete "wide" 200`, fmt.Sprintf("get %q 200", manifestKey("wide")))
	p.asked(t, call{op: "delete", key: "plain"}, api.OK, `delete "plain" 0`)
	p = halfway(t, true)
	p.asked(t, call{op: "delete", key: "film"}, api.OK, `delete "film" 200`, fmt.Sprintf("get %q 0", manifestKey("film")), fmt.Sprintf("delete %q 0", manifestKey("film")),
		fmt.Sprintf("delete %q 0", recordKey(1)), fmt.Sprintf("delete %q 0", markKey(1)), fmt.Sprintf("delete %q 0", partKey(1, 1)), fmt.Sprintf("delete %q 0", partKey(1, 3)))
}

// P26.11: the calls of the store, in their order, over uploads in every state.
func TestSweep(t *testing.T) {
	p := halfway(t, true)
	p.plain(t, numberKey(2), "")
	p.plain(t, markKey(9), "of no upload")
	p.plain(t, partKey(9, 2), "of no upload")
	p.plain(t, partKey(9, 1), "of no upload")
	p.plain(t, partKey(8, 1), "of no upload")
	p.plain(t, partKey(3, 1), "that song has not")
	p.plain(t, markKey(4), "under way")
	p.plain(t, markKey(256), "of no upload")
	a := p.number(t, call{op: "sweep"}, api.OK)
	want := []string{
		"heal 0", `list "\x00" 0`, fmt.Sprintf("get %q 0", manifestKey("film")), fmt.Sprintf("get %q 0", manifestKey("song")),
		fmt.Sprintf("delete %q 0", partKey(1, 2)), fmt.Sprintf("delete %q 0", recordKey(1)), fmt.Sprintf("delete %q 0", markKey(1)),
		fmt.Sprintf("delete %q 0", partKey(3, 1)),
		fmt.Sprintf("delete %q 0", partKey(8, 1)),
		fmt.Sprintf("delete %q 0", partKey(9, 1)), fmt.Sprintf("delete %q 0", partKey(9, 2)), fmt.Sprintf("delete %q 0", markKey(9)),
		fmt.Sprintf("delete %q 0", markKey(256)),
		fmt.Sprintf("delete %q 0", numberKey(2)),
	}
	fatalUnless(t, slices.Equal(p.hand.log, want), "Sweep asks the store\n%q, not\n%q", p.hand.log, want)
	fatalUnless(t, a.says == saying(10, api.Part{}, nil, nil, ""), "Sweep = %v", a)
	keys := own(t, p.store)
	stay := []string{markKey(4), manifestKey("film"), manifestKey("song"), numberKey(5), partKey(1, 1), partKey(1, 3), partKey(3, 2), partKey(4, 1), recordKey(2), recordKey(4)}
	fatalUnless(t, slices.Equal(keys, stay), "the own keys are %q, not %q", keys, stay)
	p.hand.s.List("\x00")
	p.alike(t, "List")
	a = p.number(t, call{op: "sweep"}, api.OK)
	fatalUnless(t, a.says == nothing, "Sweep = %v", a)
}

// A store that is stopped or closed: what is refused ahead of its calls is refused as ever, all else as the store says.
func TestStoppedAndClosed(t *testing.T) {
	for _, end := range []func(s *store.Store){func(s *store.Store) { s.Stop() }, func(s *store.Store) { s.Close() }} {
		p := laid(t)
		p.each(func(s *store.Store, _ []*spy) { end(s) })
		for _, c := range everyCall() {
			a := p.check(t, c)
			fatalUnless(t, a.number == api.ErrStopped || a.number == api.ErrClosed, "%+v = %v", c, a)
			fatalUnless(t, len(p.hand.log) == 1, "%+v asks %q", c, p.hand.log)
		}
		p.asked(t, call{op: "put", key: "film", upload: 1}, api.ErrArg)
		p.asked(t, call{op: "put", key: "film", number: 1}, api.ErrUpload)
		p.asked(t, call{op: "begin"}, api.ErrKey)
		p.asked(t, call{op: "read", key: "film", n: -1}, api.ErrArg)
		p.asked(t, call{op: "read", key: "film", off: -1}, api.ErrArg)
		p.asked(t, call{op: "finish", key: "film", upload: 1, list: badLists()[0]}, api.ErrArg)
	}
}

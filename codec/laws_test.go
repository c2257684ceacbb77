package codec_test

import (
	"bytes"
	"math"
	"math/rand"
	"slices"
	"testing"

	"cairn/api"
	"cairn/codec"
)

// item is something that is put and read again.
type item struct {
	name string
	put  func(b []byte) []byte
	same func(r *codec.Reader) bool // reads it, and tells whether it is what was put
}

func fixedItem[T codec.Unsigned](name string, v T) item {
	return item{name, func(b []byte) []byte { return codec.Put(b, v) }, func(r *codec.Reader) bool { return codec.Take[T](r) == v }}
}

func shortItem(v uint64) item {
	return item{"Uvarint", func(b []byte) []byte { return codec.PutUvarint(b, v) }, func(r *codec.Reader) bool { return r.Uvarint() == v }}
}

func foldedItem(v int64) item {
	return item{"Varint", func(b []byte) []byte { return codec.PutVarint(b, v) }, func(r *codec.Reader) bool { return r.Varint() == v }}
}

func blockItem(p []byte, room int) item {
	return item{"Block", func(b []byte) []byte { return codec.PutBytes(b, p) }, func(r *codec.Reader) bool { return bytes.Equal(r.Block(len(p)+room), p) }}
}

func textsItem(texts []string, room int) item {
	longest := 0
	for _, text := range texts {
		longest = max(longest, len(text))
	}
	return item{"Texts", func(b []byte) []byte { return codec.PutTexts(b, texts...) }, func(r *codec.Reader) bool {
		return slices.Equal(r.Texts(len(texts)+room, longest+room), texts)
	}}
}

// someItem is one of any kind.
func someItem(r *rand.Rand) item {
	v := someNumber(r)
	room := r.Intn(3)
	if room == 2 {
		room = math.MaxInt32
	}
	all := []func() item{
		func() item { return fixedItem("uint8", uint8(v)) },
		func() item { return fixedItem("uint16", uint16(v)) },
		func() item { return fixedItem("uint32", uint32(v)) },
		func() item { return fixedItem("uint64", v) },
		func() item { return fixedItem("tiny", tiny(v)) },
		func() item { return fixedItem("small", small(v)) },
		func() item { return fixedItem("word", word(v)) },
		func() item { return fixedItem("wide", wide(v)) },
		func() item { return shortItem(v) },
		func() item { return foldedItem(int64(v)) },
		func() item { return foldedItem(-int64(v)) },
		func() item { return blockItem(someBytes(r, r.Intn(20)*r.Intn(20)), room) },
		func() item { return textsItem(someTexts(r), room) },
	}
	return all[r.Intn(len(all))]()
}

// putAll puts the items one behind the other.
func putAll(items []item) []byte {
	var b []byte
	for _, i := range items {
		b = i.put(b)
	}
	return b
}

// checkBack reads the items in order, and fails unless each is as it was put.
func checkBack(t *testing.T, items []item, b []byte) {
	t.Helper()
	r := codec.Open(b)
	for at, i := range items {
		if !i.same(r) || r.Fault() != api.OK {
			t.Fatalf("of %v item %d, %s, is another one: Fault %d", b, at, i.name, r.Fault())
		}
	}
	if r.End() != api.OK || r.Left() != 0 {
		t.Fatalf("End %d, Left %d", r.End(), r.Left())
	}
	longer := codec.Open(append(slices.Clone(b), 0))
	for _, i := range items {
		i.same(longer)
	}
	if longer.End() != api.ErrTail || longer.Left() != 1 {
		t.Fatalf("with a byte behind: End %d, Left %d", longer.End(), longer.Left())
	}
}

// checkBeginning reads the items of a shorter beginning: those that are whole are as they were put, then the fault is ErrCut.
func checkBeginning(t *testing.T, items []item, ends []int, b []byte, n int) {
	t.Helper()
	r := codec.Open(b[:n])
	for at, i := range items {
		same := i.same(r)
		if ends[at] <= n && (!same || r.Fault() != api.OK) {
			t.Fatalf("of the first %d of %v item %d, %s, is another one: Fault %d", n, b, at, i.name, r.Fault())
		}
		if ends[at] > n && r.Fault() != api.ErrCut {
			t.Fatalf("of the first %d of %v item %d, %s: Fault %d", n, b, at, i.name, r.Fault())
		}
	}
	if r.End() != api.ErrCut {
		t.Fatalf("of the first %d of %v: End %d", n, b, r.End())
	}
}

// P7.11
func TestWhatWasPutIsRead(t *testing.T) {
	r := source(79)
	for range 3000 {
		var items []item
		for range r.Intn(12) {
			items = append(items, someItem(r))
		}
		checkBack(t, items, putAll(items))
	}
}

// P7.11
func TestOfEveryShorterBeginningIsCut(t *testing.T) {
	r := source(80)
	for range 300 {
		var items []item
		var b []byte
		var ends []int
		for range 1 + r.Intn(6) {
			i := someItem(r)
			b = i.put(b)
			items, ends = append(items, i), append(ends, len(b))
		}
		for n := range b {
			checkBeginning(t, items, ends, b, n)
		}
	}
}

// P7.11: each edge alone.
func TestEveryEdgeIsReadAsItWasPut(t *testing.T) {
	items := []item{blockItem(nil, 0), blockItem(make([]byte, 127), 0), blockItem(make([]byte, 128), 0), textsItem(nil, 0), textsItem([]string{""}, 0), textsItem(make([]string, 128), 0)}
	for _, v := range edges() {
		items = append(items, shortItem(v), fixedItem("uint8", uint8(v)), fixedItem("uint16", uint16(v)), fixedItem("uint32", uint32(v)), fixedItem("uint64", v))
	}
	for _, v := range signedEdges() {
		items = append(items, foldedItem(v))
	}
	for _, i := range items {
		one := []item{i}
		b := putAll(one)
		checkBack(t, one, b)
		for n := range b {
			checkBeginning(t, one, []int{len(b)}, b, n)
		}
	}
	checkBack(t, items, putAll(items))
}

// again puts what a reading answers.
func again(name string, r *codec.Reader) []byte {
	switch name {
	case "Take uint8":
		return codec.Put(nil, codec.Take[uint8](r))
	case "Take uint16":
		return codec.Put(nil, codec.Take[uint16](r))
	case "Take uint32":
		return codec.Put(nil, codec.Take[uint32](r))
	case "Take uint64":
		return codec.Put(nil, codec.Take[uint64](r))
	case "Uvarint":
		return codec.PutUvarint(nil, r.Uvarint())
	case "Varint":
		return codec.PutVarint(nil, r.Varint())
	case "Block":
		return codec.PutBytes(nil, r.Block(math.MaxInt))
	}
	return codec.PutTexts(nil, r.Texts(math.MaxInt, math.MaxInt)...)
}

// checkAgain fails unless what is taken without a fault is just what the Put of the answer writes. It tells whether there was none.
func checkAgain(t *testing.T, name string, b []byte) bool {
	t.Helper()
	r := codec.Open(b)
	put := again(name, r)
	if r.Fault() != api.OK {
		return false
	}
	if taken := b[:len(b)-r.Left()]; !bytes.Equal(put, taken) {
		t.Fatalf("%s takes %v, and puts it as %v", name, taken, put)
	}
	return true
}

// P7.11
func TestWhatIsTakenHasOneForm(t *testing.T) {
	r := source(81)
	for _, name := range []string{"Take uint8", "Take uint16", "Take uint32", "Take uint64", "Uvarint", "Varint", "Block", "Texts"} {
		taken := 0
		for i := range 20000 {
			b := someBytes(r, r.Intn(30))
			for j := range b {
				switch i % 3 {
				case 1:
					b[j] %= 4
				case 2:
					b[j] = []byte{0, 1, 2, 128, 129, 255}[r.Intn(6)]
				}
			}
			if checkAgain(t, name, b) {
				taken++
			}
		}
		if taken < 1000 {
			t.Errorf("%s was taken only %d times", name, taken)
		}
	}
	for x := range 1 << 16 {
		for _, name := range []string{"Uvarint", "Varint", "Block", "Texts"} {
			checkAgain(t, name, []byte{byte(x), byte(x >> 8)})
		}
	}
}

// P7.11: unlike things have unlike bytes, of which none is the beginning of another's.
func TestUnlikeNumbersHaveUnlikeForms(t *testing.T) {
	all := edges()
	slices.Sort(all)
	all = slices.Compact(all)
	for i, v := range all {
		for _, other := range all[:i] {
			if a, b := codec.PutUvarint(nil, v), codec.PutUvarint(nil, other); bytes.HasPrefix(a, b) || bytes.HasPrefix(b, a) {
				t.Fatalf("%d is %v, %d is %v", v, a, other, b)
			}
		}
	}
}

package codec_test

import (
	"bytes"
	"encoding/binary"
	"math"
	"slices"
	"testing"

	"cairn/api"
	"cairn/codec"
)

// P7.6, P7.9
func TestTakeOfTheExamples(t *testing.T) {
	r := codec.Open([]byte{2, 1})
	if v := codec.Take[uint16](r); v != 258 || r.End() != api.OK {
		t.Errorf("Take uint16 of 2 1 = %d, End %d", v, r.End())
	}
	r = codec.Open([]byte{2, 1})
	if a, b := codec.Take[uint32](r), codec.Take[uint8](r); a != 0 || b != 0 || r.Fault() != api.ErrCut || r.Left() != 2 {
		t.Errorf("Take uint32 and uint8 of 2 1 = %d, %d, Fault %d, Left %d", a, b, r.Fault(), r.Left())
	}
}

// P7.7
func TestShortFormsOfTheExamples(t *testing.T) {
	for _, x := range []struct {
		b     []byte
		want  uint64
		fault api.Errno
	}{
		{[]byte{128, 0}, 0, api.ErrOver},
		{[]byte{128}, 0, api.ErrCut},
		{bytes.Repeat([]byte{255}, 10), 0, api.ErrOver},
		{append(bytes.Repeat([]byte{128}, 9), 1), 1 << 63, api.OK},
	} {
		r := codec.Open(x.b)
		if got := r.Uvarint(); got != x.want || r.Fault() != x.fault {
			t.Errorf("Uvarint of %v = %d, Fault %d", x.b, got, r.Fault())
		}
	}
	if v := codec.Open([]byte{3}).Varint(); v != -2 {
		t.Errorf("Varint of 3 = %d", v)
	}
}

// P7.8
func TestBlocksAndTextsOfTheExamples(t *testing.T) {
	r := codec.Open([]byte{2, 5, 6, 7})
	if p := r.Block(2); !bytes.Equal(p, []byte{5, 6}) || r.Left() != 1 || r.End() != api.ErrTail {
		t.Errorf("Block(2) = %v, Left %d, End %d", p, r.Left(), r.End())
	}
	r = codec.Open([]byte{2, 5, 6, 7})
	if p := r.Block(1); len(p) != 0 || r.Left() != 4 || r.Fault() != api.ErrOver {
		t.Errorf("Block(1) = %v, Left %d, Fault %d", p, r.Left(), r.Fault())
	}
	r = codec.Open([]byte{2, 1, 97, 0})
	if l := r.Texts(2, 1); !slices.Equal(l, []string{"a", ""}) || r.End() != api.OK {
		t.Errorf("Texts(2, 1) = %q, End %d", l, r.End())
	}
	r = codec.Open([]byte{2, 1, 97, 1})
	if l := r.Texts(2, 1); len(l) != 0 || r.Left() != 4 || r.Fault() != api.ErrCut {
		t.Errorf("Texts(2, 1) = %q, Left %d, Fault %d", l, r.Left(), r.Fault())
	}
	r = codec.Open([]byte{1})
	if p := r.Bytes(-1); len(p) != 0 || r.Fault() != api.ErrArg {
		t.Errorf("Bytes(-1) = %v, Fault %d", p, r.Fault())
	}
	r = codec.Open(nil)
	if p := r.Bytes(0); len(p) != 0 || r.Fault() != api.OK {
		t.Errorf("Bytes(0) = %v, Fault %d", p, r.Fault())
	}
}

// checkOpen opens the bytes, does the readings in order, and holds each against the model.
func checkOpen(t *testing.T, b []byte, calls ...call) {
	t.Helper()
	r, m := codec.Open(b), &model{bytes: b}
	m.checkState(t, r, "Open")
	for _, c := range calls {
		m.check(t, r, c)
	}
}

// P7.5: the reader of no bytes, and the zero value, have none to read.
func TestReadersOfNoBytes(t *testing.T) {
	readers := []func() *codec.Reader{
		func() *codec.Reader { return &codec.Reader{} },
		func() *codec.Reader { return new(codec.Reader) },
	}
	for _, none := range noBytes() {
		readers = append(readers, func() *codec.Reader { return codec.Open(none) })
	}
	for _, open := range readers {
		for _, c := range append(everyReading(), listings(0, 0)...) {
			r, m := open(), &model{}
			m.checkState(t, r, "Open")
			m.check(t, r, c)
			m.check(t, r, c)
		}
	}
}

// P7.5: a reader of bytes has all of them, and a further one of the same begins anew.
func TestOpenBeginsAtTheFirst(t *testing.T) {
	b := []byte{1, 2, 3}
	r := codec.Open(b)
	if r.Left() != 3 || r.Fault() != api.OK || r.End() != api.ErrTail {
		t.Errorf("Left %d, Fault %d, End %d", r.Left(), r.Fault(), r.End())
	}
	codec.Take[uint16](r)
	if other := codec.Open(b); other.Left() != 3 || codec.Take[uint8](other) != 1 || codec.Take[uint8](r) != 3 {
		t.Error("two readers of the same bytes are not apart")
	}
}

// P7.6: of every number of bytes, of every kind.
func TestTakeOfEveryLength(t *testing.T) {
	r := source(75)
	for n := range 20 {
		for range 20 {
			b := someBytes(r, n)
			for _, c := range takings()[:8] {
				checkOpen(t, b, c, c, c)
			}
		}
		for _, c := range takings()[:8] {
			checkOpen(t, bytes.Repeat([]byte{255}, n), c, c, c)
		}
	}
}

// P7.6
func TestTakeIsWhatWasPut(t *testing.T) {
	for _, v := range edges() {
		if got := codec.Take[uint64](codec.Open(codec.Put(nil, v))); got != v {
			t.Fatalf("%d, not %d", got, v)
		}
		if got := codec.Take[word](codec.Open(codec.Put(nil, word(v)))); got != word(v) {
			t.Fatalf("%d, not %d", got, word(v))
		}
		if got := codec.Take[small](codec.Open(codec.Put(nil, small(v)))); got != small(v) {
			t.Fatalf("%d, not %d", got, small(v))
		}
		if got := codec.Take[tiny](codec.Open(codec.Put(nil, tiny(v)))); got != tiny(v) {
			t.Fatalf("%d, not %d", got, tiny(v))
		}
	}
}

// P7.7: of every one, two and three bytes of which some go on.
func TestShortFormsOfFewBytes(t *testing.T) {
	short, fold := takings()[8], takings()[9]
	some := []byte{0, 1, 127, 128, 255}
	for x := range 256 {
		checkOpen(t, []byte{byte(x)}, short)
		checkOpen(t, []byte{byte(x)}, fold)
		for y := range 256 {
			checkOpen(t, []byte{byte(x), byte(y)}, short, short)
			checkOpen(t, []byte{byte(x), byte(y)}, fold, fold)
			for _, z := range some {
				checkOpen(t, []byte{byte(x), byte(y), z}, short, short, fold)
			}
		}
	}
}

// P7.7: of every length and every last byte; the tenth may only be 1.
func TestShortFormsOfEveryLength(t *testing.T) {
	for n := range 13 {
		for _, goesOn := range []byte{128, 129, 200, 255} {
			begun := bytes.Repeat([]byte{goesOn}, n)
			for last := range 256 {
				for _, behind := range [][]byte{nil, {0}, {1}, {255, 1}} {
					b := slices.Concat(begun, []byte{byte(last)}, behind)
					checkOpen(t, b, takings()[8], takings()[9])
					checkOpen(t, b, takings()[9], takings()[8])
				}
			}
			checkOpen(t, begun, takings()[8])
			checkOpen(t, begun, takings()[9])
		}
	}
}

// P7.7
func TestTheTenthByte(t *testing.T) {
	begun := bytes.Repeat([]byte{255}, 9)
	for last := range 256 {
		for _, behind := range [][]byte{nil, {0}, {7, 7}} {
			want, fault := uint64(0), api.ErrOver
			if last == 1 {
				want, fault = math.MaxUint64, api.OK
			}
			r := codec.Open(slices.Concat(begun, []byte{byte(last)}, behind))
			if got := r.Uvarint(); got != want || r.Fault() != fault {
				t.Errorf("with %d as the tenth byte: %d, Fault %d", last, got, r.Fault())
			}
		}
	}
	if r := codec.Open(begun); r.Uvarint() != 0 || r.Fault() != api.ErrCut || r.Left() != 9 {
		t.Errorf("without a tenth byte: Fault %d", r.Fault())
	}
}

// P7.7: as the library reads it, which asks for no single form, and sees only behind a tenth byte that one went on.
func TestShortFormsAgainstTheLibrary(t *testing.T) {
	r := source(76)
	for range 20000 {
		b := someBytes(r, r.Intn(10))
		for i := range r.Intn(len(b) + 1) {
			b[i] |= 128
		}
		want, n := binary.Uvarint(b)
		x := codec.Open(b)
		got := x.Uvarint()
		switch {
		case n == 0 && x.Fault() != api.ErrCut, n < 0 && x.Fault() != api.ErrOver:
			t.Fatalf("Uvarint of %v: Fault %d", b, x.Fault())
		case n > 1 && b[n-1] == 0 && x.Fault() != api.ErrOver:
			t.Fatalf("Uvarint of %v: Fault %d, and it is not in its one form", b, x.Fault())
		case n > 0 && x.Fault() == api.OK && (got != want || len(b)-n != x.Left()):
			t.Fatalf("Uvarint of %v = %d, %d left, not %d", b, got, x.Left(), want)
		}
	}
}

// P7.7
func TestVarintOfTheEdges(t *testing.T) {
	for _, v := range signedEdges() {
		r := codec.Open(append(shortForm(folded(v)), 9))
		if got := r.Varint(); got != v || r.Fault() != api.OK || r.Left() != 1 {
			t.Fatalf("Varint = %d, not %d", got, v)
		}
	}
}

// P7.8: every n, below 0, as many as are left, one more, the least and the greatest int.
func TestBytesOfEveryNumber(t *testing.T) {
	r := source(77)
	for length := range 8 {
		b := someBytes(r, length)
		for _, n := range append(counts(), length-1, length, length+1) {
			for _, m := range append(counts(), length-n) {
				checkOpen(t, b, listings(n, 0)[0], listings(m, 0)[0], listings(0, 0)[0])
			}
		}
	}
}

// blocks are whole ones, ones that say more than is left, more than an int holds, and none.
func blocks() [][]byte {
	l := [][]byte{nil, {128}, {128, 0}, {255, 255}, {0}, {0, 0}, {1}, {1, 9}, {1, 9, 8}, {2, 9}, {2, 9, 8, 7}, {129, 0}, {5, 1, 2, 3, 4, 5}, {5, 1, 2, 3, 4}, {5, 1, 2, 3, 4, 5, 6}}
	for _, v := range []uint64{127, 128, 300, math.MaxInt32, math.MaxUint32, 1 << 32, 1<<32 + 1, math.MaxInt64 - 1, math.MaxInt64, 1 << 63, 1<<63 + 1, math.MaxUint64 - 1, math.MaxUint64} {
		head := shortForm(natural(v))
		l = append(l, head, slices.Concat(head, []byte{1}), slices.Concat(head, make([]byte, 127)), slices.Concat(head, make([]byte, 400)), slices.Concat([]byte{1}, head, []byte{5}), slices.Concat([]byte{2, 0}, head))
	}
	return append(l, bytes.Repeat([]byte{255}, 10), append(bytes.Repeat([]byte{128}, 9), 2), bytes.Repeat([]byte{128}, 9))
}

// P7.8: every most, also one that is just what the block's number says.
func TestBlockOfEveryNumber(t *testing.T) {
	for _, b := range blocks() {
		for _, most := range counts() {
			checkOpen(t, b, listings(most, 0)[1], listings(most, 0)[1])
			checkOpen(t, b, listings(most, 0)[1], takings()[0])
		}
	}
}

// P7.8
func TestTextsOfEveryNumber(t *testing.T) {
	all := append(blocks(), []byte{2, 1, 97, 0}, []byte{2, 1, 97, 1}, []byte{2, 1, 97}, []byte{2, 1, 97, 128, 0}, []byte{2, 1, 97, 2, 1, 2, 3}, []byte{3, 0, 0, 0, 0}, []byte{3, 2, 97, 98, 1, 99, 0, 7}, []byte{3, 2, 97, 98, 1, 99, 3, 7})
	for _, b := range all {
		for _, most := range counts() {
			for _, each := range counts() {
				checkOpen(t, b, listings(most, each)[2], listings(most, each)[2])
			}
		}
	}
}

// P7.8: the number of texts may be as great as most, each text as long as each, no more.
func TestTextsOfTheirBounds(t *testing.T) {
	b := codec.PutTexts(nil, "ab", "", "cde")
	for _, x := range []struct {
		most, each int
		fault      api.Errno
	}{{3, 3, api.OK}, {2, 3, api.ErrOver}, {3, 2, api.ErrOver}, {0, 0, api.ErrOver}, {math.MaxInt, math.MaxInt, api.OK}, {-1, 3, api.ErrArg}, {3, -1, api.ErrArg}, {math.MinInt, math.MinInt, api.ErrArg}} {
		r := codec.Open(b)
		texts := r.Texts(x.most, x.each)
		if r.Fault() != x.fault || x.fault != api.OK && (len(texts) > 0 || r.Left() != len(b)) || x.fault == api.OK && (!slices.Equal(texts, []string{"ab", "", "cde"}) || r.Left() > 0) {
			t.Errorf("Texts(%d, %d) = %q, Fault %d, Left %d", x.most, x.each, texts, r.Fault(), r.Left())
		}
	}
}

// P7.8: of errors that are there together the first one is told.
func TestTheOrderOfErrors(t *testing.T) {
	huge := codec.PutUvarint(nil, math.MaxUint64)
	for _, x := range []struct {
		name string
		b    []byte
		read func(r *codec.Reader)
		want api.Errno
	}{
		{"Block(-1) of a number that ends too early", []byte{128}, func(r *codec.Reader) { r.Block(-1) }, api.ErrArg},
		{"Block(-1) of none", nil, func(r *codec.Reader) { r.Block(-1) }, api.ErrArg},
		{"Block(1) of 2 and too few bytes", []byte{2}, func(r *codec.Reader) { r.Block(1) }, api.ErrOver},
		{"Block(2) of 2 and too few bytes", []byte{2, 1}, func(r *codec.Reader) { r.Block(2) }, api.ErrCut},
		{"Block of the greatest number", huge, func(r *codec.Reader) { r.Block(math.MaxInt) }, api.ErrOver},
		{"Block of the greatest int", codec.PutUvarint(nil, math.MaxInt64), func(r *codec.Reader) { r.Block(math.MaxInt) }, api.ErrCut},
		{"Texts(0, -1) of none", nil, func(r *codec.Reader) { r.Texts(0, -1) }, api.ErrArg},
		{"Texts(-1, 0) of none", nil, func(r *codec.Reader) { r.Texts(-1, 0) }, api.ErrArg},
		{"Texts of no number", nil, func(r *codec.Reader) { r.Texts(0, 0) }, api.ErrCut},
		{"Texts(1, 0) of two, the first too long", []byte{2, 1, 97, 0}, func(r *codec.Reader) { r.Texts(1, 0) }, api.ErrOver},
		{"Texts of the greatest number", huge, func(r *codec.Reader) { r.Texts(math.MaxInt, math.MaxInt) }, api.ErrOver},
		{"Texts of the greatest int", codec.PutUvarint(nil, math.MaxInt64), func(r *codec.Reader) { r.Texts(math.MaxInt, math.MaxInt) }, api.ErrCut},
		{"Texts, a cut one ahead of one too long", []byte{2, 1}, func(r *codec.Reader) { r.Texts(2, 1) }, api.ErrCut},
		{"Texts, one too long ahead of a cut one", []byte{2, 2, 97, 98, 9}, func(r *codec.Reader) { r.Texts(2, 1) }, api.ErrOver},
		{"Texts, a number that is not in its one form", []byte{2, 1, 97, 128, 0}, func(r *codec.Reader) { r.Texts(2, 1) }, api.ErrOver},
	} {
		r := codec.Open(x.b)
		x.read(r)
		if r.Fault() != x.want || r.End() != x.want || r.Left() != len(x.b) {
			t.Errorf("%s: Fault %d, End %d, Left %d, not %d", x.name, r.Fault(), r.End(), r.Left(), x.want)
		}
	}
}

// P7.9: behind a fault every reading answers zero and nothing changes, whatever it is handed.
func TestReadingsBehindAFault(t *testing.T) {
	for _, fault := range []struct {
		give call
		want api.Errno
	}{{listings(-1, 0)[0], api.ErrArg}, {listings(100, 0)[0], api.ErrCut}, {listings(2, 0)[1], api.ErrOver}} {
		r, m := codec.Open([]byte{1, 3, 1, 2, 3, 4, 5, 6, 7, 8, 9}), &model{bytes: []byte{1, 3, 1, 2, 3, 4, 5, 6, 7, 8, 9}}
		m.check(t, r, takings()[0])
		m.check(t, r, fault.give)
		if r.Fault() != fault.want || r.Left() != 10 || r.End() != fault.want {
			t.Fatalf("%s: Fault %d, Left %d, not %d", fault.give.name, r.Fault(), r.Left(), fault.want)
		}
		for _, n := range counts() {
			for _, c := range append(takings(), listings(n, n)...) {
				m.check(t, r, c)
			}
		}
		if r.Fault() != fault.want || r.Left() != 10 {
			t.Errorf("%s: the first fault did not stay", fault.give.name)
		}
	}
}

// P7.9: a refused reading at the end, too, makes End tell its fault, not that of the bytes behind.
func TestEnd(t *testing.T) {
	r := codec.Open([]byte{7})
	if r.End() != api.ErrTail || r.Fault() != api.OK {
		t.Errorf("End %d, Fault %d", r.End(), r.Fault())
	}
	if codec.Take[uint8](r) != 7 || r.End() != api.OK || r.Left() != 0 {
		t.Errorf("End %d, Left %d", r.End(), r.Left())
	}
	if codec.Take[uint8](r) != 0 || r.End() != api.ErrCut || r.Fault() != api.ErrCut || r.Left() != 0 {
		t.Errorf("End %d, Fault %d, Left %d", r.End(), r.Fault(), r.Left())
	}
}

// P7.10
func TestAReaderThatIsNotThere(t *testing.T) {
	var r *codec.Reader
	for _, n := range counts() {
		for _, c := range append(takings(), listings(n, n)...) {
			if got := c.reader(r); !got.same(told{}) {
				t.Errorf("%s answers %v", c.name, got)
			}
			if r.Left() != 0 || r.Fault() != api.ErrNil || r.End() != api.ErrNil {
				t.Errorf("behind %s: Left %d, Fault %d, End %d", c.name, r.Left(), r.Fault(), r.End())
			}
		}
	}
}

// P7.5 to P7.9: many readings one behind the other, of bytes of every kind.
func TestReadingsInAnyOrder(t *testing.T) {
	r := source(78)
	for range 30000 {
		b := someBytes(r, r.Intn(40))
		if r.Intn(2) == 0 { // small numbers, of which more is read
			for i := range b {
				b[i] %= 4
			}
		}
		var calls []call
		for range 1 + r.Intn(8) {
			all := append(takings(), listings(r.Intn(6), r.Intn(6))...)
			if r.Intn(20) == 0 {
				all = listings(counts()[r.Intn(len(counts()))], counts()[r.Intn(len(counts()))])
			}
			calls = append(calls, all[r.Intn(len(all))])
		}
		checkOpen(t, b, calls...)
	}
}

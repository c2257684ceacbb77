package codec_test

import (
	"bytes"
	"math"
	"slices"
	"sync"
	"testing"

	"cairn/api"
	"cairn/codec"
)

// overwrite fills a list and the room behind it.
func overwrite[E any](l []E, with E) {
	l = l[:cap(l)]
	for i := range l {
		l[i] = with
	}
}

// roomy is the list with much of its owner's behind it, and all of it.
func roomy[E any](l []E, behind E) (list, whole []E) {
	whole = append(make([]E, 0, len(l)+40), l...)
	for range 40 {
		whole = append(whole, behind)
	}
	return whole[:len(l)], whole
}

// puts are every Put of something behind b.
func puts() map[string]func(b []byte) []byte {
	return map[string]func(b []byte) []byte{
		"Put uint8":        func(b []byte) []byte { return codec.Put(b, uint8(3)) },
		"Put uint16":       func(b []byte) []byte { return codec.Put(b, uint16(3)) },
		"Put uint32":       func(b []byte) []byte { return codec.Put(b, uint32(3)) },
		"Put wide":         func(b []byte) []byte { return codec.Put(b, wide(3)) },
		"PutUvarint":       func(b []byte) []byte { return codec.PutUvarint(b, 3) },
		"PutUvarint long":  func(b []byte) []byte { return codec.PutUvarint(b, math.MaxUint64) },
		"PutVarint":        func(b []byte) []byte { return codec.PutVarint(b, -3) },
		"PutBytes of none": func(b []byte) []byte { return codec.PutBytes(b, nil) },
		"PutBytes":         func(b []byte) []byte { return codec.PutBytes(b, []byte{3, 3}) },
		"PutTexts of none": func(b []byte) []byte { return codec.PutTexts(b) },
		"PutTexts":         func(b []byte) []byte { return codec.PutTexts(b, "a", "", "bc") },
	}
}

// THE PAGE, Memory: what is put behind b stands in new memory: b, and the room behind it, stays as it was, whatever becomes of the answer.
func TestBytesHandedInStayAsTheyWere(t *testing.T) {
	for name, put := range puts() {
		for _, with := range begun() {
			b, whole := roomy(with, 201)
			before := slices.Clone(whole)
			for _, fill := range []byte{0, 171} { // one of them is another value than stands there
				answer := put(b)
				if !bytes.Equal(whole, before) {
					t.Fatalf("%s changed what it was handed", name)
				}
				overwrite(answer, fill)
				if !bytes.Equal(whole, before) {
					t.Fatalf("%s answered what it was handed", name)
				}
			}
		}
	}
}

// THE PAGE, Memory: an answer is not touched by what becomes of what was handed in, of another answer, and of what is put behind it.
func TestAnswersOfPutsShareNoMemory(t *testing.T) {
	for name, put := range puts() {
		for _, with := range begun() {
			b, whole := roomy(with, 201)
			answer, other := put(b), put(b)
			before := slices.Clone(answer)
			first, second := put(answer), codec.Put(answer, uint8(9))
			if !bytes.Equal(first[:len(before)], before) || !bytes.Equal(second[:len(before)], before) || second[len(before)] != 9 {
				t.Fatalf("%s: two answers out of one share their room", name)
			}
			overwrite(other, 99)
			overwrite(first, 99)
			overwrite(second, 99)
			overwrite(whole, 99)
			if !bytes.Equal(answer, before) {
				t.Errorf("%s: what was answered is not its own", name)
			}
		}
	}
}

// THE PAGE, Memory: the bytes of a block, and the list of texts, stay as they were, and are not what is answered.
func TestBlocksAndTextsHandedInStayAsTheyWere(t *testing.T) {
	for _, n := range []int{0, 1, 2, 100, 127, 128} {
		p, whole := roomy(bytes.Repeat([]byte{5}, n), 201)
		before := slices.Clone(whole)
		for _, b := range [][]byte{nil, p, whole[:1], whole[n:]} {
			overwrite(codec.PutBytes(b, p), 0)
			overwrite(codec.PutBytes(p, b), 171)
		}
		answer := codec.PutBytes(nil, p)
		if !bytes.Equal(whole, before) {
			t.Errorf("PutBytes changed %d bytes, or answered them", n)
		}
		overwrite(whole, 99)
		if !bytes.Equal(answer[len(answer)-n:], before[:n]) {
			t.Errorf("what PutBytes answered of %d bytes is not its own", n)
		}

		texts, all := roomy(slices.Repeat([]string{"a", ""}, n), "behind")
		kept := slices.Clone(all)
		answer = codec.PutTexts(nil, texts...)
		told := slices.Clone(answer)
		if !slices.Equal(all, kept) {
			t.Errorf("PutTexts changed %d texts", n)
		}
		overwrite(all, "x")
		if !bytes.Equal(answer, told) {
			t.Errorf("what PutTexts answered of %d texts is not its own", n)
		}
	}
}

// P7.5: a reader reads the bytes that were there when it was opened; and changes neither these nor the room behind.
func TestOpenReadsWhatWasThere(t *testing.T) {
	stood := codec.PutTexts(codec.PutBytes(codec.PutVarint(codec.Put(nil, uint32(77)), -5), []byte{5, 6}), "a", "")
	b, whole := roomy(stood, 1)
	before := slices.Clone(whole)
	r, early := codec.Open(b), codec.Open(b)
	if codec.Take[uint32](early) != 77 {
		t.Error("Take")
	}
	overwrite(whole, 99)
	for _, x := range []*codec.Reader{early, r} {
		if x == r && codec.Take[uint32](x) != 77 {
			t.Error("Take")
		}
		if x.Varint() != -5 || !bytes.Equal(x.Block(2), []byte{5, 6}) || !slices.Equal(x.Texts(2, 1), []string{"a", ""}) || x.End() != api.OK {
			t.Errorf("a reader reads what became of the bytes: Fault %d", x.Fault())
		}
	}
	copy(whole, before)
	for _, c := range everyReading() {
		r := codec.Open(b)
		for range 3 {
			c.reader(r)
		}
		if !bytes.Equal(whole, before) {
			t.Fatalf("%s changed the bytes that were opened", c.name)
		}
	}
}

// P7.5: the room behind the bytes is not read.
func TestRoomBehindIsNotRead(t *testing.T) {
	for _, with := range [][]byte{nil, {}, {128}, {1}, {2, 1}, {2, 1, 97}} {
		b, _ := roomy(with, 1)
		for _, c := range append(everyReading(), listings(4, 4)...) {
			r, m := codec.Open(b), &model{bytes: slices.Clip(slices.Clone(with))}
			m.check(t, r, c)
			m.check(t, r, c)
		}
	}
}

// THE PAGE, Memory: what a reading answers, and the room behind it, is neither what the reader keeps nor another answer.
func TestAnswersOfReadingsShareNoMemory(t *testing.T) {
	stood := bytes.Repeat([]byte{2, 5, 6}, 20)
	readings := []struct {
		name string
		read func(r *codec.Reader) []byte
		want []byte
	}{
		{"Bytes", func(r *codec.Reader) []byte { return r.Bytes(3) }, []byte{2, 5, 6}},
		{"Bytes of none", func(r *codec.Reader) []byte { return r.Bytes(0) }, nil},
		{"Block", func(r *codec.Reader) []byte { return r.Block(9) }, []byte{5, 6}},
	}
	for _, x := range readings {
		for _, y := range readings {
			r := codec.Open(stood)
			first := x.read(r)
			copied := *r
			second := y.read(r)
			overwrite(first, 99)
			if !bytes.Equal(second, y.want) {
				t.Errorf("%s shares its answer with %s", x.name, y.name)
			}
			overwrite(second, 99)
			for r.Left() > 0 && r.Fault() == api.OK {
				if p := r.Block(2); !bytes.Equal(p, []byte{5, 6}) {
					t.Fatalf("behind %s and %s the reader has other bytes: %v", x.name, y.name, p)
				}
			}
			if p := y.read(&copied); !bytes.Equal(p, y.want) {
				t.Errorf("%s and %s changed what the reader keeps", x.name, y.name)
			}
		}
	}
}

// THE PAGE, Memory: lists of texts are apart too.
func TestTextsShareNoMemory(t *testing.T) {
	b := codec.PutTexts(codec.PutTexts(nil, "ab", "c"), "ab", "c")
	r, other := codec.Open(b), codec.Open(b)
	first, second := r.Texts(2, 2), r.Texts(2, 2)
	third := other.Texts(2, 2)
	overwrite(first, "x")
	overwrite(b, 99)
	for _, texts := range [][]string{second, third, other.Texts(2, 2)} {
		if !slices.Equal(texts, []string{"ab", "c"}) {
			t.Errorf("%q", texts)
		}
	}
}

// W0: no call keeps anything but the reader it is of: each answers the same whatever is called beside it.
func TestManyCallsAtOnce(t *testing.T) {
	want := map[string][]byte{}
	for name, put := range puts() {
		want[name] = put([]byte{1, 2, 3})
	}
	shared := append(make([]byte, 0, 100), 1, 2, 3)
	var group sync.WaitGroup
	for range 8 {
		group.Go(func() {
			for range 200 {
				for name, put := range puts() {
					if !bytes.Equal(put(shared), want[name]) {
						t.Errorf("%s beside others", name)
					}
				}
				r := codec.Open(shared)
				if codec.Take[uint16](r) != 513 || codec.Take[uint16](r) != 0 || r.Fault() != api.ErrCut {
					t.Error("Take beside others")
				}
			}
		})
	}
	group.Wait()
}

// W0: a number that says far more than follows makes neither room nor time for it.
func TestGreatNumbersEndSoon(t *testing.T) {
	for _, n := range []uint64{1 << 20, 1 << 31, 1 << 40, math.MaxInt64} {
		b := append(codec.PutUvarint(nil, n), make([]byte, 100)...)
		for _, c := range listings(math.MaxInt, math.MaxInt) {
			r := codec.Open(b)
			if got := testing.AllocsPerRun(5, func() { c.reader(codec.Open(b)) }); got > 50 {
				t.Errorf("%s of %d makes room %v times", c.name, n, got)
			}
			if got := c.reader(r); !got.same(told{}) || r.Fault() != api.ErrCut || r.Left() != len(b) {
				t.Errorf("%s of %d: Fault %d", c.name, n, r.Fault())
			}
		}
	}
}

// W0: whatever is handed in, a call ends and does not panic.
func TestEveryCallEnds(t *testing.T) {
	r := source(82)
	for range 20000 {
		b := someBytes(r, r.Intn(30))
		for _, put := range puts() {
			put(b)
		}
		x := codec.Open(b)
		for range 4 {
			all := append(takings(), listings(int(r.Uint64()), int(r.Uint64()))...)
			all[r.Intn(len(all))].reader(x)
			x.End()
		}
		codec.Zig(int64(r.Uint64()))
		codec.Zag[int8](r.Uint64())
	}
}

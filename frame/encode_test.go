package frame_test

import (
	"bytes"
	"slices"
	"strings"
	"testing"

	"cairn/api"
	"cairn/frame"
)

// mustEncode is the form of a shard that may be.
func mustEncode(t *testing.T, s api.Shard) []byte {
	t.Helper()
	b, err := frame.Encode(s)
	if err != api.OK {
		t.Fatalf("Encode(%v) = %d", s, err)
	}
	return b
}

// P8.3: each byte of the examples' form.
func TestEncodeOfTheExample(t *testing.T) {
	first := []byte{67, 82, 78, 2, 1, 1, 1, 1, 1, 1, 1, 1, 2, 1, 4, 0, 0, 0, 10, 0, 0, 0, 2, 3, 0, 0, 0, 5, 0, 0, 0, 1}
	headSum := sum(first, []byte("a"))
	want := slices.Concat(first, sum(first), []byte("a"), headSum,
		[]byte{9, 8, 7, 6}, sum(headSum, []byte{0, 0, 0, 0, 9, 8, 7, 6}),
		[]byte{5}, sum(headSum, []byte{1, 0, 0, 0, 5}))
	if got := mustEncode(t, plainShard()); !bytes.Equal(got, want) || len(got) != 54 {
		t.Errorf("Encode = %v, not %v", got, want)
	}
}

// P8.3: where each number stands, the lowest byte first.
func TestEncodeOfEveryNumber(t *testing.T) {
	for _, x := range []struct {
		name   string
		at     int
		want   []byte
		change func(h *api.Head)
	}{
		{"Store", 4, []byte{8, 7, 6, 5, 4, 3, 2, 1}, func(h *api.Head) { h.Store = [8]byte{8, 7, 6, 5, 4, 3, 2, 1} }},
		{"K", 12, []byte{254}, func(h *api.Head) { h.Shape.K = 254 }},
		{"M", 13, []byte{127}, func(h *api.Head) { h.Shape.K, h.Shape.M = 128, 127 }},
		{"Block", 14, []byte{2, 1, 0, 0}, func(h *api.Head) { h.Shape.Block = 258 }},
		{"the greatest Block", 14, []byte{0, 0, 1, 0}, func(h *api.Head) { h.Shape.Block = 65536 }},
		{"Size", 18, []byte{3, 2, 1, 0}, func(h *api.Head) { h.Shape.Block, h.Size = 65536, 0x010203 }},
		{"the greatest Size", 18, []byte{0, 0, 16, 0}, func(h *api.Head) { h.Shape.Block, h.Size = 65536, 1048576 }},
		{"Index", 22, []byte{254}, func(h *api.Head) { h.Shape.K, h.Shape.M, h.Index = 128, 127, 254 }},
		{"Epoch", 23, []byte{4, 3, 2, 1}, func(h *api.Head) { h.Gen.Epoch = 0x01020304 }},
		{"the greatest Epoch", 23, []byte{255, 255, 255, 255}, func(h *api.Head) { h.Gen.Epoch = api.MaxEpoch }},
		{"Count", 27, []byte{8, 7, 6, 5}, func(h *api.Head) { h.Gen.Count = 0x05060708 }},
		{"the greatest Count", 27, []byte{255, 255, 255, 255}, func(h *api.Head) { h.Gen.Count = api.MaxCount }},
		{"the Key's bytes", 31, []byte{255}, func(h *api.Head) { h.Key = strings.Repeat("k", 255) }},
		{"the Key", 36, []byte{0, 255, 195}, func(h *api.Head) { h.Key = "\x00\xff\xc3" }},
	} {
		s := fill(with(x.change), func(n int) []byte { return make([]byte, n) })
		if got := mustEncode(t, s)[x.at : x.at+len(x.want)]; !bytes.Equal(got, x.want) {
			t.Errorf("%s stands as %v, not %v", x.name, got, x.want)
		}
	}
}

// P8.3, and P8.2: the form has the head's Length.
func TestEncodeOfManyShards(t *testing.T) {
	r := source(84)
	shards := edgeShards()
	for range 3000 {
		shards = append(shards, someShard(r))
	}
	for _, s := range shards {
		b := mustEncode(t, s)
		if want := formOf(s); !bytes.Equal(b, want) {
			t.Fatalf("Encode(%v) = %v, not %v", s.Head, b, want)
		}
		if n, err := frame.Length(s.Head); n != len(b) || err != api.OK {
			t.Fatalf("Length(%v) = %d, %d, of %d bytes", s.Head, n, err, len(b))
		}
	}
}

// P8.3: nil and empty lists are the same.
func TestEncodeOfNoBlocks(t *testing.T) {
	h := with(func(h *api.Head) { h.Size = 0 })
	for _, blocks := range [][][]byte{nil, {}, plainShard().Blocks[:0]} {
		b := mustEncode(t, api.Shard{Head: h, Blocks: blocks})
		if want := rawOf(h).bytes(); !bytes.Equal(b, want) || len(b) != 41 {
			t.Errorf("Encode = %v, not %v", b, want)
		}
	}
}

// P8.3
func TestEncodeOfWrongBlocks(t *testing.T) {
	sized := func(size int) api.Head { return with(func(h *api.Head) { h.Size = size }) }
	for _, x := range []struct {
		name   string
		h      api.Head
		blocks [][]byte
	}{
		{"4 and 2 bytes", sized(10), [][]byte{make([]byte, 4), make([]byte, 2)}},
		{"one block", sized(10), [][]byte{make([]byte, 4)}},
		{"the last block alone", sized(10), [][]byte{make([]byte, 1)}},
		{"no block", sized(10), nil},
		{"an empty list", sized(10), [][]byte{}},
		{"three blocks", sized(10), [][]byte{make([]byte, 4), make([]byte, 1), make([]byte, 1)}},
		{"a nil block more", sized(10), [][]byte{make([]byte, 4), make([]byte, 1), nil}},
		{"an empty block more", sized(10), [][]byte{make([]byte, 4), make([]byte, 1), {}}},
		{"a nil block ahead", sized(10), [][]byte{nil, make([]byte, 4), make([]byte, 1)}},
		{"a nil block last", sized(10), [][]byte{make([]byte, 4), nil}},
		{"an empty block last", sized(10), [][]byte{make([]byte, 4), {}}},
		{"a nil block first", sized(10), [][]byte{nil, make([]byte, 1)}},
		{"nil blocks", sized(10), [][]byte{nil, nil}},
		{"a short block first", sized(10), [][]byte{make([]byte, 3), make([]byte, 1)}},
		{"a long block first", sized(10), [][]byte{make([]byte, 5), make([]byte, 1)}},
		{"blocks in another order", sized(10), [][]byte{make([]byte, 1), make([]byte, 4)}},
		{"as many bytes, cut elsewhere", sized(10), [][]byte{make([]byte, 3), make([]byte, 2)}},
		{"two whole blocks", sized(10), [][]byte{make([]byte, 4), make([]byte, 4)}},
		{"a block with room behind it", sized(10), [][]byte{make([]byte, 4), make([]byte, 0, 1)}},
		{"of an empty object a nil block", sized(0), [][]byte{nil}},
		{"of an empty object an empty block", sized(0), [][]byte{{}}},
		{"of an empty object a block", sized(0), [][]byte{{1}}},
		{"a second block that is too much", sized(8), [][]byte{make([]byte, 4), make([]byte, 1)}},
		{"an empty second block that is too much", sized(8), [][]byte{make([]byte, 4), {}}},
	} {
		if b, err := frame.Encode(api.Shard{Head: x.h, Blocks: x.blocks}); len(b) != 0 || err != api.ErrHead {
			t.Errorf("Encode with %s = %v, %d", x.name, b, err)
		}
	}
}

// P8.3: any block of many.
func TestEncodeLooksAtEveryBlock(t *testing.T) {
	r := source(85)
	for range 2000 {
		s := someShard(r)
		if len(s.Blocks) == 0 {
			continue
		}
		j := r.Intn(len(s.Blocks))
		s.Blocks[j] = pick(r, append(s.Blocks[j], 7), s.Blocks[j][1:], nil)
		if b, err := frame.Encode(s); len(b) != 0 || err != api.ErrHead {
			t.Fatalf("Encode with another block %d of %v = %v, %d", j, s.Head, b, err)
		}
	}
}

// P8.3: the head is looked at ahead of the blocks.
func TestEncodeTellsTheHeadFirst(t *testing.T) {
	s := api.Shard{Head: with(func(h *api.Head) { h.Gen.Count = 0 }), Blocks: [][]byte{{1}}}
	if b, err := frame.Encode(s); len(b) != 0 || err != api.ErrArg {
		t.Errorf("Encode = %v, %d", b, err)
	}
	if b, err := frame.Encode(api.Shard{}); len(b) != 0 || err != api.ErrShape {
		t.Errorf("Encode of nothing = %v, %d", b, err)
	}
}

// P8.3, and the chapter's Limits: the greatest form.
func TestTheGreatestForm(t *testing.T) {
	r := source(86)
	h := with(func(h *api.Head) {
		h.Shape, h.Size, h.Index = api.Shape{K: 1, M: 1, Block: 256}, api.MaxObject, 1
		h.Key = strings.Repeat("k", 255)
	})
	s := fill(h, func(n int) []byte { return someBytes(r, n) })
	b := mustEncode(t, s)
	if len(s.Blocks) != 4096 || len(b) != 1<<20+4096*4+295 || len(b) >= 1<<21 {
		t.Errorf("%d blocks, %d bytes", len(s.Blocks), len(b))
	}
	if !bytes.Equal(b, formOf(s)) {
		t.Error("Encode is not the form")
	}
	if err := checkReads(t, "the greatest form", b); err != api.OK {
		t.Error(err)
	}
	if err := checkReads(t, "the greatest form, cut", b[:len(b)-1]); err != api.ErrCut {
		t.Error(err)
	}
}

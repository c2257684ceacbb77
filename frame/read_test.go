package frame_test

import (
	"math/rand"
	"slices"
	"strings"
	"testing"

	"cairn/api"
	"cairn/frame"
)

// checkTold fails unless ParseHead, Parse and Spoilt refuse the bytes with this, and zero beside it.
func checkTold(t *testing.T, what string, b []byte, want api.Errno) {
	t.Helper()
	if h, err := frame.ParseHead(b); h != (api.Head{}) || err != want {
		t.Errorf("%s: ParseHead = %v, %d, not %d", what, h, err, want)
	}
	if s, err := frame.Parse(b); s.Head != (api.Head{}) || len(s.Blocks) != 0 || err != want {
		t.Errorf("%s: Parse = %v, %d, not %d", what, s, err, want)
	}
	if l, err := frame.Spoilt(b); len(l) != 0 || err != want {
		t.Errorf("%s: Spoilt = %v, %d, not %d", what, l, err, want)
	}
}

// turned is the bytes with something put onto the byte there.
func turned(b []byte, at int, by byte) []byte {
	b = slices.Clone(b)
	b[at] ^= by
	return b
}

// P8.4, P8.5, P8.6
func TestReadsOfTheExamples(t *testing.T) {
	b := mustEncode(t, plainShard())
	checkTold(t, "40 bytes of 41", b[:40], api.ErrCut)
	checkTold(t, "35 bytes", b[:35], api.ErrCut)
	checkTold(t, "36 zeros", make([]byte, 36), api.ErrMagic)
	if h, err := frame.ParseHead(b[:41]); h != plainHead() || err != api.OK {
		t.Errorf("ParseHead of 41 bytes = %v, %d", h, err)
	}
	if l, err := frame.Spoilt(b[:53]); !slices.Equal(l, []int{1}) || err != api.OK {
		t.Errorf("Spoilt of 53 bytes = %v, %d", l, err)
	}
	more := append(slices.Clone(b), 0)
	if l, err := frame.Spoilt(more); len(l) != 0 || err != api.OK {
		t.Errorf("Spoilt of a byte more = %v, %d", l, err)
	}
	if s, err := frame.Parse(b[:53]); !sameShard(s, api.Shard{}) || err != api.ErrCut {
		t.Errorf("Parse of 53 bytes = %v, %d", s, err)
	}
	if s, err := frame.Parse(more); !sameShard(s, api.Shard{}) || err != api.ErrTail {
		t.Errorf("Parse of a byte more = %v, %d", s, err)
	}
	if s, err := frame.Parse(b); !sameShard(s, plainShard()) || err != api.OK {
		t.Errorf("Parse = %v, %d", s, err)
	}
}

// P8.4: of nothing, and of fewer than 36 bytes, whatever they are.
func TestReadsOfFewBytes(t *testing.T) {
	r := source(87)
	checkTold(t, "nil", nil, api.ErrCut)
	checkTold(t, "no byte", []byte{}, api.ErrCut)
	checkTold(t, "no byte with a form behind", mustEncode(t, plainShard())[:0], api.ErrCut)
	for n := range 36 {
		checkTold(t, "zeros", make([]byte, n), api.ErrCut)
		checkTold(t, "any bytes", someBytes(r, n), api.ErrCut)
	}
}

// P8.4: each byte of the mark.
func TestReadsOfAWrongMark(t *testing.T) {
	h := rawOf(plainHead())
	for at := range 4 {
		for by := 1; by < 256; by++ {
			first := turned(h.first(), at, byte(by))
			b := slices.Concat(first, sum(first), []byte("a"), sum(first, []byte("a")))
			checkTold(t, "a wrong mark with right sums", b, api.ErrMagic)
			checkTold(t, "a wrong mark", turned(mustEncode(t, plainShard()), at, byte(by)), api.ErrMagic)
		}
	}
}

// P8.4: each byte ahead of the first sum, and of the sums.
func TestReadsOfWrongSums(t *testing.T) {
	for _, s := range []api.Shard{plainShard(), fill(with(func(h *api.Head) { h.Size = 0 }), nil)} {
		b := mustEncode(t, s)
		for at := 4; at < 41; at++ {
			for by := 1; by < 256; by++ {
				checkTold(t, "a byte of the head is another one", turned(b, at, byte(by)), api.ErrSum)
			}
		}
	}
}

// P8.4: the order of the errors: what holds first is told.
func TestParseHeadTellsTheFirstError(t *testing.T) {
	b := mustEncode(t, plainShard())
	checkTold(t, "cut and no mark", turned(b, 0, 1)[:35], api.ErrCut)
	checkTold(t, "no mark and no first sum", turned(turned(b, 0, 1), 33, 1), api.ErrMagic)
	checkTold(t, "no mark and cut in the key", turned(b, 3, 1)[:36], api.ErrMagic)
	checkTold(t, "no first sum and cut in the key", turned(b, 33, 1)[:36], api.ErrSum)
	checkTold(t, "no first sum, since a longer key is told, and cut", turned(b, 31, 255), api.ErrSum)
	checkTold(t, "cut, and no head's sum", turned(b, 36, 1)[:40], api.ErrCut)

	bad := rawOf(with(func(h *api.Head) { h.Gen.Count = 0 })).bytes()
	checkTold(t, "cut, and no head that may be", bad[:40], api.ErrCut)
	checkTold(t, "no head's sum, and no head that may be", turned(bad, 37, 1), api.ErrSum)
	checkTold(t, "no first sum, and no head that may be", turned(bad, 32, 1), api.ErrSum)
	checkTold(t, "no mark, and no head that may be", turned(bad, 1, 1), api.ErrMagic)
	checkTold(t, "no head that may be", bad, api.ErrHead)
	checkTold(t, "no head that may be, and bytes behind it", append(bad, 1, 2, 3), api.ErrHead)
}

// P8.4: a key's length that is right by the first sum, and fewer bytes.
func TestReadsOfACutKey(t *testing.T) {
	h := rawOf(with(func(h *api.Head) { h.Key = strings.Repeat("k", 255) }))
	b := h.bytes()
	for n := range b {
		checkTold(t, "a cut key", b[:n], api.ErrCut)
	}
	if got, err := frame.ParseHead(b); got != h.head() || err != api.OK {
		t.Errorf("ParseHead = %v, %d", got, err)
	}
}

// badHeads are heads with room for each number in its bytes that may not be, one thing wrong with each.
func badHeads() map[string]raw {
	bad := map[string]raw{}
	add := func(name string, change func(h *raw)) {
		h := rawOf(plainHead())
		change(&h)
		bad[name] = h
	}
	add("K 0", func(h *raw) { h.k = 0 })
	add("K 0 and M 0", func(h *raw) { h.k, h.m = 0, 0 })
	add("M 0", func(h *raw) { h.m = 0 })
	add("M above K", func(h *raw) { h.m = 3 })
	add("K 255", func(h *raw) { h.k = 255 })
	add("n 256", func(h *raw) { h.k, h.m = 128, 128 })
	add("K 255 and M 255", func(h *raw) { h.k, h.m = 255, 255 })
	add("Block 0", func(h *raw) { h.block = 0 })
	add("Block 65537", func(h *raw) { h.block = 65537 })
	add("Block 2^32 - 1", func(h *raw) { h.block = 1<<32 - 1 })
	add("Size above MaxObject", func(h *raw) { h.block, h.size = 65536, 1048577 })
	add("Size 2^32 - 1", func(h *raw) { h.block, h.size = 65536, 1<<32-1 })
	add("Size 2^31", func(h *raw) { h.size = 1 << 31 })
	add("a Size that does not fit", func(h *raw) { h.size = 8*4096 + 1 })
	add("Index 3", func(h *raw) { h.index = 3 })
	add("Index 255", func(h *raw) { h.index = 255 })
	add("Epoch 0", func(h *raw) { h.epoch = 0 })
	add("Count 0", func(h *raw) { h.count = 0 })
	add("no Key", func(h *raw) { h.key = "" })
	add("zeros alone", func(h *raw) { *h = raw{} })
	return bad
}

// P8.4: right sums over a head that may not be.
func TestReadsOfHeadsThatMayNotBe(t *testing.T) {
	for name, h := range badHeads() {
		b := h.bytes()
		checkTold(t, name, b, api.ErrHead)
		checkTold(t, name+" and bytes behind", append(b, make([]byte, 100)...), api.ErrHead)
	}
}

// P8.4: heads at the edges of what may be.
func TestParseHeadAtTheEdges(t *testing.T) {
	for _, s := range edgeShards() {
		b := rawOf(s.Head).bytes()
		for _, behind := range [][]byte{nil, {0}, {1, 2, 3}, make([]byte, 100)} {
			if h, err := frame.ParseHead(slices.Concat(b, behind)); h != s.Head || err != api.OK {
				t.Errorf("ParseHead of %v = %v, %d", s.Head, h, err)
			}
		}
	}
}

// P8.4, P8.5, P8.6: every beginning of a form, and bytes behind it.
func TestReadsOfEveryBeginning(t *testing.T) {
	for _, s := range edgeShards() {
		b := mustEncode(t, s)
		step := 1 + len(b)/400
		for n := 0; n < len(b); n += step {
			if err := checkReads(t, "a beginning", b[:n]); err != api.ErrCut {
				t.Fatalf("Parse of %d of %d bytes = %d", n, len(b), err)
			}
		}
		for _, behind := range [][]byte{{0}, {255}, b, make([]byte, 300)} {
			if err := checkReads(t, "bytes behind", slices.Concat(b, behind)); err != api.ErrTail {
				t.Fatalf("Parse with %d bytes behind = %d", len(behind), err)
			}
		}
		if err := checkReads(t, "the form", b); err != api.OK {
			t.Fatalf("Parse = %d", err)
		}
	}
}

// P8.6: of a beginning just those frames that are wholly there are not told.
func TestSpoiltOfEveryBeginning(t *testing.T) {
	s := fill(with(func(h *api.Head) { h.Size = 8*3 + 3 }), func(n int) []byte { return make([]byte, n) })
	b := mustEncode(t, s)
	for n := 41; n <= len(b); n++ {
		var want []int
		for j, end := range []int{49, 57, 65, 71} {
			if n < end {
				want = append(want, j)
			}
		}
		if l, err := frame.Spoilt(b[:n]); !slices.Equal(l, want) || err != api.OK {
			t.Errorf("Spoilt of %d bytes = %v, %d, not %v", n, l, err, want)
		}
	}
}

// P8.5, P8.6: a form of no block has nothing that is spoilt.
func TestReadsOfNoBlock(t *testing.T) {
	h := with(func(h *api.Head) { h.Size = 0 })
	b := rawOf(h).bytes()
	if s, err := frame.Parse(b); s.Head != h || len(s.Blocks) != 0 || err != api.OK {
		t.Errorf("Parse = %v, %d", s, err)
	}
	for _, behind := range [][]byte{nil, {0}, {1, 2, 3, 4, 5}} {
		if l, err := frame.Spoilt(slices.Concat(b, behind)); len(l) != 0 || err != api.OK {
			t.Errorf("Spoilt = %v, %d", l, err)
		}
	}
}

// P8.5, P8.6: each byte of each frame another one: its block is spoilt, and no other.
func TestReadsOfWrongBlocks(t *testing.T) {
	b := mustEncode(t, plainShard())
	for at := 41; at < 54; at++ {
		want := []int{0}
		if at >= 49 {
			want = []int{1}
		}
		for by := 1; by < 256; by++ {
			c := turned(b, at, byte(by))
			if l, err := frame.Spoilt(c); !slices.Equal(l, want) || err != api.OK {
				t.Fatalf("Spoilt with another byte %d = %v, %d", at, l, err)
			}
			if s, err := frame.Parse(c); !sameShard(s, api.Shard{}) || err != api.ErrSum {
				t.Fatalf("Parse with another byte %d = %v, %d", at, s, err)
			}
			if h, err := frame.ParseHead(c); h != plainHead() || err != api.OK {
				t.Fatalf("ParseHead with another byte %d = %v, %d", at, h, err)
			}
		}
	}
}

// P8.5: the order: the length is looked at ahead of the sums of the blocks.
func TestParseTellsTheFirstError(t *testing.T) {
	b := turned(mustEncode(t, plainShard()), 41, 1)
	for _, x := range []struct {
		b    []byte
		want api.Errno
	}{{b[:53], api.ErrCut}, {append(slices.Clone(b), 0), api.ErrTail}, {b, api.ErrSum}} {
		if s, err := frame.Parse(x.b); !sameShard(s, api.Shard{}) || err != x.want {
			t.Errorf("Parse of %d bytes = %v, %d, not %d", len(x.b), s, err, x.want)
		}
	}
	if l, err := frame.Spoilt(b[:53]); !slices.Equal(l, []int{0, 1}) || err != api.OK {
		t.Errorf("Spoilt = %v, %d", l, err)
	}
}

// P8.6: several frames, rising.
func TestSpoiltListsAll(t *testing.T) {
	r := source(88)
	for range 2000 {
		s := someShard(r)
		b := mustEncode(t, s)
		starts := modelFrames(s.Head)
		var want []int
		for j := range s.Blocks {
			if r.Intn(2) == 0 {
				want = append(want, j)
				b[starts[j]+r.Intn(starts[j+1]-starts[j])] ^= byte(1 + r.Intn(255))
			}
		}
		if l, err := frame.Spoilt(b); !slices.Equal(l, want) || err != api.OK {
			t.Fatalf("Spoilt = %v, %d, not %v", l, err, want)
		}
	}
}

// P8.5: a sum that was made with another part left out or put in is not right.
func TestBlocksSumsOfOtherForms(t *testing.T) {
	s := plainShard()
	head := rawOf(s.Head).bytes()
	headSum, first := head[37:], head[32:36]
	zero, one := low(0), low(1)
	right := [][]byte{sum(headSum, zero, s.Blocks[0]), sum(headSum, one, s.Blocks[1])}
	wrong := [][][]byte{
		{sum(s.Blocks[0]), sum(zero, s.Blocks[0]), sum(headSum, s.Blocks[0]), sum(headSum, one, s.Blocks[0]), sum(first, zero, s.Blocks[0]), sum(zero, headSum, s.Blocks[0]), {0, 0, 0, 0}},
		{sum(s.Blocks[1]), sum(one, s.Blocks[1]), sum(headSum, s.Blocks[1]), sum(headSum, zero, s.Blocks[1]), sum(headSum, []byte{0, 0, 0, 1}, s.Blocks[1]), sum(headSum, []byte{1}, s.Blocks[1]), {0, 0, 0, 0}},
	}
	for j := range wrong {
		for i, other := range wrong[j] {
			sums := slices.Clone(right)
			sums[j] = other
			b := slices.Concat(head, s.Blocks[0], sums[0], s.Blocks[1], sums[1])
			if l, err := frame.Spoilt(b); !slices.Equal(l, []int{j}) || err != api.OK {
				t.Errorf("Spoilt with the sum %d of block %d = %v, %d", i, j, l, err)
			}
		}
	}
}

// spoil changes a form somehow: other bytes, some cut off, some more, heads' bytes with right sums.
func spoil(r *rand.Rand, s api.Shard, b []byte) []byte {
	b = slices.Clone(b)
	for range r.Intn(3) {
		switch r.Intn(6) {
		case 0:
			b = b[:r.Intn(len(b)+1)]
		case 1:
			b = append(b, someBytes(r, 1+r.Intn(20))...)
		case 2:
			if len(b) > 0 {
				b[r.Intn(len(b))] ^= byte(1 << r.Intn(8))
			}
		case 3: // another fixed part, with a right first sum
			if len(b) >= 36 {
				b[r.Intn(32)] ^= byte(1 << r.Intn(8))
				copy(b[32:], sum(b[:32]))
			}
		case 4: // another head, with right sums
			h := rawOf(s.Head)
			*pick(r, &h.k, &h.m, &h.index) ^= byte(1 << r.Intn(8))
			*pick(r, &h.block, &h.size, &h.epoch, &h.count) ^= uint32(r.Intn(2)) << r.Intn(32)
			copy(b, h.bytes())
		case 5: // frames anew, behind whatever head there is
			if h, err := modelHead(b); err == api.OK && formLength(h) < 1<<12 {
				b = formOf(fill(h, func(n int) []byte { return someBytes(r, n) }))
			}
		}
	}
	return b
}

// P8.4, P8.5, P8.6: whatever the bytes are, in the chapter's words.
func TestReadsOfAnyBytes(t *testing.T) {
	r := source(89)
	told := map[api.Errno]int{}
	for range 40000 {
		s := someShard(r)
		told[checkReads(t, "a spoilt form", spoil(r, s, formOf(s)))]++
	}
	for _, err := range []api.Errno{api.OK, api.ErrCut, api.ErrTail, api.ErrMagic, api.ErrHead, api.ErrSum} {
		if told[err] < 200 {
			t.Errorf("%d was told only %d times", err, told[err])
		}
	}
	for range 10000 {
		checkReads(t, "any bytes", someBytes(r, r.Intn(100)))
	}
}

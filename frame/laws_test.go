package frame_test

import (
	"bytes"
	"math"
	"math/rand"
	"slices"
	"testing"

	"cairn/api"
	"cairn/frame"
)

// checkBack fails unless Parse of the shard's form is the shard, and of other lengths nothing.
func checkBack(t *testing.T, s api.Shard) {
	t.Helper()
	b := mustEncode(t, s)
	back, err := frame.Parse(b)
	if err != api.OK || !sameShard(back, s) {
		t.Fatalf("Parse of %v = %v, %d", s, back, err)
	}
	if h, err := frame.ParseHead(b); h != s.Head || err != api.OK {
		t.Fatalf("ParseHead of %v = %v, %d", s.Head, h, err)
	}
	if l, err := frame.Spoilt(b); len(l) != 0 || err != api.OK {
		t.Fatalf("Spoilt of %v = %v, %d", s.Head, l, err)
	}
}

// P8.7
func TestThereAndBack(t *testing.T) {
	r := source(90)
	for _, s := range edgeShards() {
		checkBack(t, s)
	}
	for range 5000 {
		checkBack(t, someShard(r))
	}
}

// P8.7: shapes at their limits, with few bytes and many.
func TestThereAndBackOfEveryShape(t *testing.T) {
	r := source(91)
	for _, shape := range shapes() {
		stripe := shape.K * shape.Block
		for _, size := range []int{0, 1, shape.K, stripe - 1, stripe, stripe + 1, 3*stripe + shape.K/2, 4096 * stripe} {
			h := with(func(h *api.Head) { h.Shape, h.Size, h.Index = shape, min(size, 1<<18), shape.K+shape.M-1 })
			if frame.Check(h) == api.OK {
				checkBack(t, fill(h, func(n int) []byte { return someBytes(r, n) }))
			}
		}
	}
}

// P8.7
func TestOfEveryShorterBeginningIsCutAndOfMoreIsTail(t *testing.T) {
	r := source(92)
	for range 300 {
		b := mustEncode(t, someShard(r))
		for n := range b {
			if s, err := frame.Parse(b[:n]); !sameShard(s, api.Shard{}) || err != api.ErrCut {
				t.Fatalf("Parse of %d of %v = %v, %d", n, b, s, err)
			}
		}
		for n := 1; n < 20; n++ {
			if s, err := frame.Parse(slices.Concat(b, someBytes(r, n))); !sameShard(s, api.Shard{}) || err != api.ErrTail {
				t.Fatalf("Parse of %v and %d bytes more = %v, %d", b, n, s, err)
			}
		}
	}
}

// P8.7: what is taken has one form.
func TestWhatIsTakenHasOneForm(t *testing.T) {
	r := source(93)
	taken := 0
	for range 30000 {
		s := someShard(r)
		b := spoil(r, s, formOf(s))
		back, err := frame.Parse(b)
		if err != api.OK {
			continue
		}
		taken++
		if again := mustEncode(t, back); !bytes.Equal(again, b) {
			t.Fatalf("Parse takes %v, and Encode is %v", b, again)
		}
	}
	if taken < 5000 {
		t.Errorf("only %d were taken", taken)
	}
}

// P8.7: shards that differ in one thing have other bytes.
func TestUnlikeShardsHaveUnlikeForms(t *testing.T) {
	base := api.Shard{Head: with(func(h *api.Head) { h.Shape, h.Index = api.Shape{K: 3, M: 2, Block: 4}, 1 })}
	changes := []func(s *api.Shard){
		func(s *api.Shard) {},
		func(s *api.Shard) { s.Store[0]++ },
		func(s *api.Shard) { s.Store[7]++ },
		func(s *api.Shard) { s.Shape.K++ },
		func(s *api.Shard) { s.Shape.M++ },
		func(s *api.Shard) { s.Shape.Block++ },
		func(s *api.Shard) { s.Key = "b" },
		func(s *api.Shard) { s.Key = "aa" },
		func(s *api.Shard) { s.Key = "a\x00" },
		func(s *api.Shard) { s.Size-- },
		func(s *api.Shard) { s.Size -= 2 },
		func(s *api.Shard) { s.Size = 0 },
		func(s *api.Shard) { s.Index++ },
		func(s *api.Shard) { s.Gen.Epoch++ },
		func(s *api.Shard) { s.Gen.Count++ },
		func(s *api.Shard) { s.Gen.Epoch, s.Gen.Count = s.Gen.Count, s.Gen.Epoch },
	}
	seen := map[string]int{}
	put := func(s api.Shard, i int) {
		b := string(mustEncode(t, s))
		if other, is := seen[b]; is {
			t.Errorf("the shards %d and %d have the same bytes", other, i)
		}
		seen[b] = i
	}
	for i, change := range changes {
		s := base
		change(&s)
		put(fill(s.Head, func(n int) []byte { return make([]byte, n) }), i)
	}
	for bit := range 32 { // of the one block
		s := fill(base.Head, func(n int) []byte { return make([]byte, n) })
		s.Blocks[0][bit/8] ^= 1 << (bit % 8)
		put(s, 100+bit)
	}
}

// turnBits turns bits in order from one on, where the pattern has ones: bit i is the bit i modulo 8 of the byte i divided by 8.
func turnBits(b []byte, at int, pattern uint32) []byte {
	b = slices.Clone(b)
	for i := range 32 {
		if pattern>>i&1 == 1 {
			b[(at+i)/8] ^= 1 << ((at + i) % 8)
		}
	}
	return b
}

// framesWith are the frames in which a byte is another one; and whether the head has such a byte.
func framesWith(starts []int, a, b []byte) (frames []int, head bool) {
	head = !bytes.Equal(a[:starts[0]], b[:starts[0]])
	for j := range len(starts) - 1 {
		if !bytes.Equal(a[starts[j]:starts[j+1]], b[starts[j]:starts[j+1]]) {
			frames = append(frames, j)
		}
	}
	return frames, head
}

// checkTurned fails unless turned bits are told as P8.8 says.
func checkTurned(t *testing.T, s api.Shard, b []byte, at int, pattern uint32) {
	t.Helper()
	c := turnBits(b, at, pattern)
	frames, head := framesWith(modelFrames(s.Head), b, c)
	if got, err := frame.Parse(c); !sameShard(got, api.Shard{}) || err == api.OK {
		t.Fatalf("Parse takes %v with the bits %x turned at %d", b, pattern, at)
	}
	h, err := frame.ParseHead(c)
	l, spoiltErr := frame.Spoilt(c)
	if head {
		if h != (api.Head{}) || err == api.OK || len(l) != 0 || spoiltErr != err {
			t.Fatalf("of %v with the bits %x turned at %d: ParseHead = %v, %d; Spoilt = %v, %d", b, pattern, at, h, err, l, spoiltErr)
		}
		return
	}
	if h != s.Head || err != api.OK || !slices.Equal(l, frames) || spoiltErr != api.OK {
		t.Fatalf("of %v with the bits %x turned at %d: ParseHead = %v, %d; Spoilt = %v, %d, not %v", b, pattern, at, h, err, l, spoiltErr, frames)
	}
}

// fitting is the pattern without what would stand behind the end.
func fitting(pattern uint32, bits int) uint32 {
	if bits < 32 {
		pattern &= 1<<bits - 1
	}
	return pattern
}

// burstShards are few shards with heads and frames of all kinds: of blocks of one byte, of zeros, of ones.
func burstShards(r *rand.Rand) []api.Shard {
	small := with(func(h *api.Head) { h.Shape, h.Size, h.Index = api.Shape{K: 1, M: 1, Block: 1}, 4, 1 })
	empty := with(func(h *api.Head) { h.Size = 0 })
	return []api.Shard{
		plainShard(),
		fill(small, func(n int) []byte { return make([]byte, n) }),
		fill(small, func(n int) []byte { return bytes.Repeat([]byte{255}, n) }),
		fill(empty, nil),
		fill(with(func(h *api.Head) { h.Size, h.Key = 8*3+5, "a long key" }), func(n int) []byte { return someBytes(r, n) }),
		someShard(r), someShard(r), someShard(r),
	}
}

// P8.8: in the head, in a frame and across the bounds: from every bit on, one bit, two, all, and others.
func TestTurnedBitsAreTold(t *testing.T) {
	r := source(94)
	for _, s := range burstShards(r) {
		b := mustEncode(t, s)
		for at := range 8 * len(b) {
			left := 8*len(b) - at
			patterns := []uint32{1, math.MaxUint32, 0xffff, 0x80000001}
			for far := 1; far < 32; far++ {
				patterns = append(patterns, 1|1<<far)
			}
			for range 8 {
				patterns = append(patterns, r.Uint32()|1)
			}
			for _, pattern := range patterns {
				checkTurned(t, s, b, at, fitting(pattern, left))
			}
		}
	}
}

// P8.8: what is just the sum's own polynomial, which no sum sees, is 33 bits long: so the bound is sharp, and within it all is seen.
func TestTurnedBitsOfTheSumsOwn(t *testing.T) {
	s := fill(with(func(h *api.Head) { h.Shape.Block, h.Size = 16, 32 }), func(n int) []byte { return make([]byte, n) })
	b := mustEncode(t, s)
	own := []byte{0xF1, 0x76, 0xEC, 0x05, 0x01}
	blind := slices.Clone(b)
	for i, x := range own {
		blind[45+i] ^= x
	}
	if got, err := frame.Parse(blind); err != api.OK || bytes.Equal(got.Blocks[0], s.Blocks[0]) {
		t.Errorf("Parse of other bits that no such sum sees = %v, %d", got, err)
	}
	checkTurned(t, s, b, 8*45, 0x05EC76F1)
	checkTurned(t, s, b, 8*46, 0x0105EC76)
}

// P8.8: across the bound of two frames both are listed.
func TestTurnedBitsAcrossABound(t *testing.T) {
	s := fill(with(func(h *api.Head) { h.Size = 8 * 5 }), func(n int) []byte { return make([]byte, n) })
	b := mustEncode(t, s)
	for j := range 4 {
		bound := 8 * (41 + 8*(j+1))
		for before := 1; before < 32; before++ {
			c := turnBits(b, bound-before, math.MaxUint32)
			if l, err := frame.Spoilt(c); !slices.Equal(l, []int{j, j + 1}) || err != api.OK {
				t.Errorf("%d bits ahead of the frame %d: Spoilt = %v, %d", before, j+1, l, err)
			}
		}
		for bit, want := range map[int]int{bound - 1: j, bound: j + 1} {
			if l, err := frame.Spoilt(turnBits(b, bit, 1)); !slices.Equal(l, []int{want}) || err != api.OK {
				t.Errorf("the bit %d: Spoilt = %v, %d", bit, l, err)
			}
		}
	}
}

// swapped is the form with two frames each in the place of the other.
func swapped(b []byte, starts []int, j, k int) []byte {
	c := slices.Clone(b)
	copy(c[starts[j]:starts[j+1]], b[starts[k]:starts[k+1]])
	copy(c[starts[k]:starts[k+1]], b[starts[j]:starts[j+1]])
	return c
}

// fills are ways to fill blocks: with zeros, with ones, with anything.
func fills(r *rand.Rand) []func(n int) []byte {
	return []func(n int) []byte{
		func(n int) []byte { return make([]byte, n) },
		func(n int) []byte { return bytes.Repeat([]byte{255}, n) },
		func(n int) []byte { return someBytes(r, n) },
	}
}

// P8.9
func TestFramesInAWrongPlace(t *testing.T) {
	r := source(95)
	for _, filling := range fills(r) {
		for _, h := range []api.Head{
			with(func(h *api.Head) { h.Size = 8*7 + 7 }), // the last has as many bytes, too
			with(func(h *api.Head) { h.Size = 8*7 + 3 }),
			with(func(h *api.Head) { h.Shape, h.Size, h.Index = api.Shape{K: 1, M: 1, Block: 1}, 300, 1 }),
			with(func(h *api.Head) { h.Shape.Block, h.Size = 50, 700 }),
		} {
			s := fill(h, filling)
			b, starts := mustEncode(t, s), modelFrames(h)
			for k := range s.Blocks {
				for j := range k {
					if len(s.Blocks[j]) != len(s.Blocks[k]) || j > 3 && j < k-1 && (j+k)%37 != 0 {
						continue
					}
					c := swapped(b, starts, j, k)
					if l, err := frame.Spoilt(c); !slices.Equal(l, []int{j, k}) || err != api.OK {
						t.Fatalf("Spoilt with the frames %d and %d swapped = %v, %d", j, k, l, err)
					}
					if got, err := frame.Parse(c); !sameShard(got, api.Shard{}) || err != api.ErrSum {
						t.Fatalf("Parse with the frames %d and %d swapped = %v, %d", j, k, got, err)
					}
				}
			}
		}
	}
}

// others are heads that differ from the one in just one of M, Index, Epoch and Count.
func others(h api.Head) []api.Head {
	var l []api.Head
	add := func(change func(o *api.Head)) {
		o := h
		change(&o)
		if o != h && frame.Check(o) == api.OK {
			l = append(l, o)
		}
	}
	for m := 1; m <= h.Shape.K; m++ {
		add(func(o *api.Head) { o.Shape.M = m })
	}
	for i := range h.Shape.K + h.Shape.M {
		add(func(o *api.Head) { o.Index = i })
	}
	for bit := range 32 {
		add(func(o *api.Head) { o.Gen.Epoch ^= 1 << bit })
		add(func(o *api.Head) { o.Gen.Count ^= 1 << bit })
	}
	for _, n := range []int{1, 2, h.Gen.Epoch - 1, h.Gen.Epoch + 1, h.Gen.Count - 1, h.Gen.Count + 1, math.MaxUint32} {
		add(func(o *api.Head) { o.Gen.Epoch = n })
		add(func(o *api.Head) { o.Gen.Count = n })
	}
	return l
}

// P8.10
func TestFramesOfAnotherFile(t *testing.T) {
	r := source(96)
	for _, filling := range fills(r) {
		for _, h := range []api.Head{
			with(func(h *api.Head) { h.Shape, h.Size = api.Shape{K: 5, M: 4, Block: 4}, 20*3+6 }),
			with(func(h *api.Head) { h.Shape, h.Size = api.Shape{K: 3, M: 2, Block: 1}, 14 }),
			with(func(h *api.Head) { h.Gen = api.Gen{Epoch: math.MaxUint32, Count: 1 << 31} }),
		} {
			here := fill(h, filling)
			b, starts := mustEncode(t, here), modelFrames(h)
			all := others(h)
			if len(all) < 60 {
				t.Fatalf("only %d other heads", len(all))
			}
			for _, o := range all {
				for _, there := range []api.Shard{{Head: o, Blocks: here.Blocks}, fill(o, filling)} {
					from := mustEncode(t, there)
					for j := range here.Blocks {
						c := slices.Clone(b)
						copy(c[starts[j]:starts[j+1]], from[starts[j]:starts[j+1]])
						if l, err := frame.Spoilt(c); !slices.Equal(l, []int{j}) || err != api.OK {
							t.Fatalf("Spoilt of %v with the frame %d of %v = %v, %d", h, j, o, l, err)
						}
						if got, err := frame.Parse(c); !sameShard(got, api.Shard{}) || err != api.ErrSum {
							t.Fatalf("Parse of %v with the frame %d of %v = %v, %d", h, j, o, got, err)
						}
					}
				}
			}
		}
	}
}

package stripe_test

import (
	"math"
	"slices"
	"strings"
	"testing"

	"cairn/api"
	"cairn/frame"
	"cairn/stripe"
)

// P10.2
func TestSplitOfTheExamples(t *testing.T) {
	for _, x := range []struct {
		data []byte
		want [][][]byte
	}{
		{[]byte{0, 1, 2, 3, 4, 5, 6, 7, 8, 9}, [][][]byte{{{0, 1, 2, 3}, {8}}, {{4, 5, 6, 7}, {9}}, {{8, 9, 10, 11}, {10}}}},
		{[]byte{104, 101, 108, 108, 111}, [][][]byte{{{104, 101, 108}}, {{108, 111, 0}}, {{96, 113, 180}}}},
		{nil, [][][]byte{nil, nil, nil}},
		{[]byte{}, [][][]byte{nil, nil, nil}},
	} {
		l, err := stripe.Split(plainHead(), x.data)
		if err != api.OK || len(l) != 3 {
			t.Fatalf("Split of %v = %v, %d", x.data, l, err)
		}
		for i, s := range l {
			head := with(func(h *api.Head) { h.Size, h.Index = len(x.data), i })
			if s.Head != head || !sameBlocks(s.Blocks, x.want[i]) {
				t.Errorf("Split of %v: place %d is %v", x.data, i, s)
			}
		}
	}
}

// P10.2
func TestSplitOfTheExamplesThatAreRefused(t *testing.T) {
	checkRefused(t, "Key none", with(func(h *api.Head) { h.Key = "" }), 5, api.ErrKey)
	checkRefused(t, "Gen 1, 0", with(func(h *api.Head) { h.Gen = api.Gen{Epoch: 1} }), 5, api.ErrArg)
	checkRefused(t, "K 1, M 2", withShape(1, 2, 4), 5, api.ErrShape)
}

func checkRefused(t *testing.T, name string, h api.Head, size int, want api.Errno) {
	t.Helper()
	if l, err := stripe.Split(h, make([]byte, size)); len(l) != 0 || err != want {
		t.Errorf("Split with %s, %d bytes = %v, %d, not %d", name, size, l, err, want)
	}
}

// P10.2: each error of a head, the first that holds; what the Size and the Index say does not count.
func TestSplitRefuses(t *testing.T) {
	for _, n := range []int{math.MinInt, -1, 0, 255, 256, math.MaxInt} {
		checkRefused(t, "another K", withShape(n, 1, 4), 5, api.ErrShape)
		checkRefused(t, "another M", withShape(2, n, 4), 5, api.ErrShape)
	}
	for _, n := range []int{math.MinInt, -1, 0, 65537, math.MaxInt} {
		checkRefused(t, "another Block", withShape(2, 1, n), 5, api.ErrShape)
	}
	for _, n := range []int{math.MinInt, -1, 0, 1 << 32, math.MaxInt} {
		checkRefused(t, "another Epoch", with(func(h *api.Head) { h.Gen.Epoch = n }), 5, api.ErrArg)
		checkRefused(t, "another Count", with(func(h *api.Head) { h.Gen.Count = n }), 5, api.ErrArg)
	}
	checkRefused(t, "a long Key", with(func(h *api.Head) { h.Key = strings.Repeat("k", 256) }), 5, api.ErrKey)
	checkRefused(t, "a shape and a Key", with(func(h *api.Head) { h.Shape.M, h.Key = 0, "" }), 5, api.ErrShape)
	checkRefused(t, "a Key and many bytes", with(func(h *api.Head) { h.Key = "" }), 8*4096+1, api.ErrKey)
	checkRefused(t, "many bytes and a Gen", with(func(h *api.Head) { h.Gen = api.Gen{} }), 8*4096+1, api.ErrLarge)
	checkRefused(t, "one block too many", plainHead(), 8*4096+1, api.ErrLarge)
	checkRefused(t, "one byte too many", withShape(2, 1, 65536), 1048577, api.ErrLarge)
	checkRefused(t, "no blocks at all", api.Head{}, 0, api.ErrShape)
}

// P10.2: at the limits.
func TestSplitAtTheLimits(t *testing.T) {
	for _, x := range []struct {
		h    api.Head
		size int
	}{
		{plainHead(), 8 * 4096},
		{withShape(2, 1, 65536), 1048576},
		{withShape(1, 1, 1), 4096},
		{with(func(h *api.Head) { h.Key = strings.Repeat("k", 255) }), 1},
		{with(func(h *api.Head) { h.Gen = api.Gen{Epoch: 1, Count: 1} }), 1},
		{with(func(h *api.Head) { h.Gen = api.Gen{Epoch: api.MaxEpoch, Count: api.MaxCount} }), 1},
	} {
		data := someBytes(source(100), x.size)
		checkSplit(t, x.h, data)
	}
}

// P10.2: the Size and the Index of the head that is handed in are not looked at.
func TestSplitLooksAtNoSizeAndNoIndex(t *testing.T) {
	data := []byte("hello")
	want, _ := modelSplit(plainHead(), data)
	for _, size := range numbers() {
		for _, index := range numbers() {
			l, err := stripe.Split(with(func(h *api.Head) { h.Size, h.Index = size, index }), data)
			if err != api.OK || !sameShards(l, want) {
				t.Fatalf("Split with Size %d, Index %d = %v, %d", size, index, l, err)
			}
		}
	}
}

// checkSplit holds Split against the model, and each shard against layer 8.
func checkSplit(t *testing.T, h api.Head, data []byte) {
	t.Helper()
	l, err := stripe.Split(h, data)
	want, wantErr := modelSplit(h, data)
	if err != wantErr || !sameShards(l, want) {
		t.Fatalf("Split(%v, %d bytes) = %d shards, %d, not as the model's: %d", h, len(data), len(l), err, wantErr)
	}
	for i, s := range l {
		if _, err := frame.Encode(s); err != api.OK {
			t.Fatalf("Split(%v, %d bytes): the shard %d may not be: %d", h, len(data), i, err)
		}
	}
}

// P10.2: objects of all small sizes, of all small shapes.
func TestSplitOfSmallObjects(t *testing.T) {
	r := source(101)
	for _, s := range smallShapes() {
		for size := range 3*s.K*s.Block + 2 {
			checkSplit(t, withShape(s.K, s.M, s.Block), someBytes(r, size))
		}
	}
}

// P10.2
func TestSplitOfTheEdges(t *testing.T) {
	r := source(102)
	for _, x := range edgeObjects() {
		checkSplit(t, withShape(x.shape.K, x.shape.M, x.shape.Block), someBytes(r, x.size))
	}
}

// P10.1
func TestBlocksAreTheSizes(t *testing.T) {
	for _, x := range []struct {
		size int
		want []int
	}{{10, []int{4, 1}}, {8, []int{4}}, {0, nil}, {5, []int{3}}, {17, []int{4, 4, 1}}} {
		if l, err := stripe.Blocks(api.Shape{K: 2, M: 1, Block: 4}, x.size); !slices.Equal(l, x.want) || err != api.OK {
			t.Errorf("Blocks(2 1 4, %d) = %v, %d", x.size, l, err)
		}
	}
	check := func(s api.Shape, size int) {
		t.Helper()
		l, err := stripe.Blocks(s, size)
		want, wantErr := frame.Sizes(s, size)
		if err != wantErr || !slices.Equal(l, want) {
			t.Fatalf("Blocks(%v, %d) = %v, %d, not %v, %d", s, size, l, err, want, wantErr)
		}
	}
	for _, s := range smallShapes() {
		for size := -1; size < 100; size++ {
			check(s, size)
		}
	}
	r := source(103)
	for range 20000 {
		check(api.Shape{K: pick(r, numbers()...), M: pick(r, numbers()...), Block: pick(r, numbers()...)}, pick(r, numbers()...))
	}
	for _, x := range []struct {
		s    api.Shape
		size int
		want api.Errno
	}{
		{api.Shape{K: 2, M: 1, Block: 4}, -1, api.ErrArg}, {api.Shape{K: 2, M: 3, Block: 4}, -1, api.ErrShape}, {api.Shape{K: 1, M: 1, Block: 1}, 4097, api.ErrLarge}, {api.Shape{}, 0, api.ErrShape},
	} {
		if l, err := stripe.Blocks(x.s, x.size); len(l) != 0 || err != x.want {
			t.Errorf("Blocks(%v, %d) = %v, %d, not %d", x.s, x.size, l, err, x.want)
		}
	}
}

package frame_test

import (
	"bytes"
	"math"
	"slices"
	"strings"
	"sync"
	"testing"

	"cairn/api"
	"cairn/frame"
)

// overwrite fills a list and the room behind it.
func overwrite[E any](l []E, with E) {
	l = l[:cap(l)]
	for i := range l {
		l[i] = with
	}
}

// roomy is the list with much of its owner's behind it, and all of it.
func roomy[E any](l []E, behind E) (list, all []E) {
	all = append(make([]E, 0, len(l)+40), l...)
	for range 40 {
		all = append(all, behind)
	}
	return all[:len(l)], all
}

// roomyShard is the shard with room behind its list and each of its blocks, and all of these.
func roomyShard(s api.Shard) (roomier api.Shard, lists [][]byte, all [][]byte) {
	blocks, lists := roomy(s.Blocks, []byte{77})
	for j, block := range blocks {
		b, whole := roomy(block, 201)
		blocks[j] = b
		all = append(all, whole)
	}
	return api.Shard{Head: s.Head, Blocks: blocks}, lists, all
}

func cloned(lists [][]byte) [][]byte {
	var l [][]byte
	for _, b := range lists {
		l = append(l, slices.Clone(b))
	}
	return l
}

func same(a, b [][]byte) bool { return slices.EqualFunc(a, b, bytes.Equal) }

// memoryShards are few, of no block, of one, of many, and one that Encode refuses.
func memoryShards() []api.Shard {
	r := source(97)
	refused := plainShard()
	refused.Blocks = append(refused.Blocks, []byte{1})
	l := []api.Shard{plainShard(), refused, fill(with(func(h *api.Head) { h.Size = 0 }), nil), fill(with(func(h *api.Head) { h.Size = 8 }), func(n int) []byte { return make([]byte, n) })}
	for range 50 {
		l = append(l, someShard(r))
	}
	return l
}

// P8.11: the blocks, their list and the room behind all of them stay as they were, whatever becomes of the answer.
func TestBlocksHandedInStayAsTheyWere(t *testing.T) {
	for _, plain := range memoryShards() {
		s, lists, all := roomyShard(plain)
		listsBefore, allBefore := cloned(lists), cloned(all)
		for _, fill := range []byte{0, 171} { // one of them is another value than stands there
			b, _ := frame.Encode(s)
			if !same(lists, listsBefore) || !same(all, allBefore) {
				t.Fatalf("Encode changed what it was handed: %v", plain)
			}
			overwrite(b, fill)
			if !same(lists, listsBefore) || !same(all, allBefore) {
				t.Fatalf("Encode answered what it was handed: %v", plain)
			}
		}
	}
}

// P8.11: what Encode answered is not touched by what becomes of the blocks, nor of another answer.
func TestFormsShareNoMemory(t *testing.T) {
	for _, plain := range memoryShards() {
		s, _, all := roomyShard(plain)
		b, err := frame.Encode(s)
		other, _ := frame.Encode(s)
		if err != api.OK {
			continue
		}
		for _, block := range all {
			overwrite(block, 99)
		}
		overwrite(other, 99)
		if !bytes.Equal(b, formOf(plain)) {
			t.Fatalf("what Encode answered of %v is not its own", plain)
		}
	}
}

// P8.11: bytes that are read stay as they were, and the room behind them; and that is not read.
func TestBytesHandedInStayAsTheyWere(t *testing.T) {
	for _, plain := range memoryShards() {
		form := formOf(plain)
		for _, n := range []int{0, 3, 35, 36, 40, 41, len(form) - 1, len(form)} {
			n = min(n, len(form))
			// The room behind holds what is missing: whoever read it would find a whole form.
			whole := slices.Concat(form, bytes.Repeat([]byte{201}, 40))
			before := slices.Clone(whole)
			checkReads(t, "a form with room behind", whole[:n])
			if !bytes.Equal(whole, before) {
				t.Fatalf("reading %d bytes changed them", n)
			}
			s, _ := frame.Parse(whole[:n])
			l, _ := frame.Spoilt(whole[:n])
			for _, block := range s.Blocks {
				overwrite(block, 171)
			}
			overwrite(s.Blocks, nil)
			overwrite(l, 171)
			if !bytes.Equal(whole, before) {
				t.Fatalf("what was answered of %d bytes is those", n)
			}
		}
	}
}

// P8.11: each block that Parse answers is its own, with the room behind it: apart from the bytes, from the others, from another answer.
func TestParsedBlocksShareNoMemory(t *testing.T) {
	for _, plain := range append(memoryShards(), edgeShards()...) {
		b := formOf(plain)
		s, err := frame.Parse(b)
		if err != api.OK {
			continue
		}
		other, _ := frame.Parse(b)
		overwrite(b, 99)
		for _, block := range other.Blocks {
			overwrite(block, 98)
		}
		overwrite(other.Blocks, []byte{97})
		if !sameShard(s, plain) {
			t.Fatalf("what Parse answered of %v is not its own", plain.Head)
		}
		for j, block := range s.Blocks {
			overwrite(block, 96)
			for k := j + 1; k < min(len(s.Blocks), j+4); k++ {
				if !bytes.Equal(s.Blocks[k], plain.Blocks[k]) {
					t.Fatalf("the blocks %d and %d share memory", j, k)
				}
			}
			if j > 0 && !bytes.Equal(s.Blocks[j-1], bytes.Repeat([]byte{byte(j - 1)}, len(s.Blocks[j-1]))) {
				t.Fatalf("the blocks %d and %d share memory", j-1, j)
			}
			overwrite(block, byte(j))
		}
	}
}

// P8.11: a head's Key is a text of its own.
func TestTheKeyIsNotTheBytesOwn(t *testing.T) {
	b := formOf(plainShard())
	h, _ := frame.ParseHead(b)
	s, _ := frame.Parse(b)
	overwrite(b, 99)
	if h != plainHead() || s.Head != plainHead() {
		t.Errorf("the heads became %v, %v", h, s.Head)
	}
}

// P8.11
func TestListsOfNumbersShareNoMemory(t *testing.T) {
	shape := api.Shape{K: 2, M: 1, Block: 4}
	want := []int{4, 4, 4, 2}
	first, _ := frame.Sizes(shape, 27)
	second, _ := frame.Sizes(shape, 27)
	overwrite(first, 99)
	third, _ := frame.Sizes(shape, 27)
	if !slices.Equal(second, want) || !slices.Equal(third, want) {
		t.Errorf("Sizes = %v, %v", second, third)
	}

	head := rawOf(with(func(h *api.Head) { h.Size = 27 })).bytes()
	want = []int{0, 1, 2, 3}
	first, _ = frame.Spoilt(head)
	second, _ = frame.Spoilt(head)
	overwrite(first, 99)
	third, _ = frame.Spoilt(head)
	if !slices.Equal(second, want) || !slices.Equal(third, want) {
		t.Errorf("Spoilt = %v, %v", second, third)
	}
}

// P8.11: no call keeps anything: each answers the same whatever is called beside it.
func TestManyCallsAtOnce(t *testing.T) {
	shards := memoryShards()
	var group sync.WaitGroup
	for range 8 {
		group.Go(func() {
			for _, s := range shards {
				b, err := frame.Encode(s)
				if err != api.OK {
					continue
				}
				back, err := frame.Parse(b)
				if !bytes.Equal(b, formOf(s)) || !sameShard(back, s) || err != api.OK {
					t.Errorf("Encode and Parse of %v beside others", s.Head)
				}
				l, err := frame.Spoilt(b[:len(b)-1])
				if n, _ := frame.Sizes(s.Shape, s.Size); err == api.OK && len(n) > 0 && !slices.Equal(l, []int{len(n) - 1}) {
					t.Errorf("Spoilt of %v beside others = %v", s.Head, l)
				}
			}
		})
	}
	group.Wait()
}

// P8.11, W0: whatever is handed in, a call ends and does not panic; and makes no room for what isn't there.
func TestEveryCallEnds(t *testing.T) {
	r := source(98)
	for range 50000 {
		n := func() int { return pick(r, numbers()...) }
		h := api.Head{Shape: api.Shape{K: n(), M: n(), Block: n()}, Key: strings.Repeat("k", r.Intn(300)), Size: n(), Index: n(), Gen: api.Gen{Epoch: n(), Count: n()}}
		frame.Check(h)
		frame.Sizes(h.Shape, h.Size)
		frame.Length(h)
		frame.Encode(api.Shard{Head: h, Blocks: [][]byte{nil, {1}, {}}})
		b := someBytes(r, r.Intn(100))
		copy(b, "CRN\x02")
		if len(b) >= 36 {
			copy(b[32:], sum(b[:32]))
		}
		frame.ParseHead(b)
		frame.Parse(b)
		frame.Spoilt(b)
	}
}

// W0: a head that says far more than follows makes no room for it.
func TestGreatHeadsEndSoon(t *testing.T) {
	h := with(func(h *api.Head) { h.Shape, h.Size = api.Shape{K: 254, M: 1, Block: 65536}, api.MaxObject })
	b := rawOf(h).bytes()
	if s, err := frame.Parse(b); !sameShard(s, api.Shard{}) || err != api.ErrCut {
		t.Errorf("Parse = %v, %d", s, err)
	}
	for _, epoch := range []int{1, math.MaxUint32} {
		h.Gen.Epoch = epoch
		if got := testing.AllocsPerRun(5, func() { frame.Parse(rawOf(h).bytes()) }); got > 200 {
			t.Errorf("Parse makes room %v times", got)
		}
	}
}

package stripe_test

import (
	"bytes"
	"slices"
	"sync"
	"testing"
	"time"

	"cairn/api"
	"cairn/stripe"
)

// overwrite fills a list and the room behind it.
func overwrite[E any](l []E, with E) {
	l = l[:cap(l)]
	for i := range l {
		l[i] = with
	}
}

// roomy is the list with much of its owner's behind it, and all of it.
func roomy[E any](l []E, behind E) (list, all []E) {
	all = append(make([]E, 0, len(l)+40), l...)
	for range 40 {
		all = append(all, behind)
	}
	return all[:len(l)], all
}

// owned is shards with room behind their list, each list of blocks and each block; and all of these.
type owned struct {
	shards []api.Shard
	all    []api.Shard
	lists  [][][]byte
	blocks [][]byte
}

func own(shards []api.Shard) *owned {
	o := &owned{}
	o.shards, o.all = roomy(shards, api.Shard{Head: plainHead(), Blocks: [][]byte{{88}}})
	for i := range o.shards {
		blocks, list := roomy(o.shards[i].Blocks, []byte{77})
		o.shards[i].Blocks = blocks
		o.lists = append(o.lists, list)
		for j := range blocks {
			block, all := roomy(blocks[j], 201)
			blocks[j] = block
			o.blocks = append(o.blocks, all)
		}
	}
	return o
}

// snapshot is all of it as it is now.
func (o *owned) snapshot() *owned {
	s := &owned{all: copied(o.all), blocks: clonedBlocks(o.blocks)}
	for _, list := range o.lists {
		s.lists = append(s.lists, clonedBlocks(list))
	}
	return s
}

func (o *owned) equal(p *owned) bool {
	return sameShards(o.all, p.all) && slices.EqualFunc(o.lists, p.lists, sameBlocks) && sameBlocks(o.blocks, p.blocks)
}

func clonedBlocks(l [][]byte) [][]byte {
	var out [][]byte
	for _, b := range l {
		out = append(out, slices.Clone(b))
	}
	return out
}

// memoryObjects are few, of no stripe, of one, of many; of shards with one place and with many.
func memoryObjects() (heads []api.Head, objects [][]byte) {
	r := source(120)
	for range 60 {
		s := pick(r, smallShapes()...)
		heads = append(heads, withShape(s.K, s.M, s.Block))
		objects = append(objects, someBytes(r, pick(r, 0, 1, s.K*s.Block, r.Intn(4*s.K*s.Block+1))))
	}
	heads = append(heads, plainHead(), withShape(1, 1, 1), withShape(60, 20, 1))
	objects = append(objects, []byte("0123456789"), someBytes(r, 30), someBytes(r, 600))
	return heads, objects
}

// The page: the object and the room behind it stay as they were, whatever becomes of the shards; and the room is not read.
func TestBytesHandedInStayAsTheyWere(t *testing.T) {
	heads, objects := memoryObjects()
	for x, h := range heads {
		data, all := roomy(objects[x], 201)
		before := slices.Clone(all)
		l, _ := stripe.Split(h, data)
		want, _ := modelSplit(h, objects[x])
		if !sameShards(l, want) || !bytes.Equal(all, before) {
			t.Fatalf("Split of %d bytes with room behind", len(data))
		}
		for _, s := range l {
			for _, b := range s.Blocks {
				overwrite(b, 171)
			}
		}
		if !bytes.Equal(all, before) {
			t.Fatalf("Split answered the bytes that it was handed")
		}
	}
}

// The page: each block that Split answers is its own, with the room behind it: apart from the object, from each other block, from another answer; so is each list of blocks.
func TestBlocksShareNoMemory(t *testing.T) {
	heads, objects := memoryObjects()
	for x, h := range heads {
		data := slices.Clone(objects[x])
		l, _ := stripe.Split(h, data)
		want, _ := modelSplit(h, data)
		other, _ := stripe.Split(h, data)
		overwrite(data, 99)
		for i := range other {
			for _, b := range other[i].Blocks {
				overwrite(b, 98)
			}
			overwrite(other[i].Blocks, []byte{97})
		}
		overwrite(other, api.Shard{})
		if !sameShards(l, want) {
			t.Fatalf("what Split answered of %v is not its own", h)
		}
		for i := range l {
			for j := range l[i].Blocks {
				overwrite(l[i].Blocks[j], 171)
				for c := range want[i].Blocks[j] {
					want[i].Blocks[j][c] = 171
				}
				if h.Shape.K < 10 && !sameShards(l, want) {
					t.Fatalf("of %v: the block %d of the place %d shares memory", h, j, i)
				}
			}
		}
		for i := range l {
			overwrite(l[i].Blocks, []byte{96})
			want[i].Blocks = slices.Repeat([][]byte{{96}}, len(want[i].Blocks))
		}
		if !sameShards(l, want) {
			t.Fatalf("of %v: lists of blocks share memory", h)
		}
	}
}

// The page: shards, their lists, their blocks and the room behind all of them stay as they were, whatever becomes of the answers; and the room is not read.
func TestShardsHandedInStayAsTheyWere(t *testing.T) {
	r := source(121)
	heads, objects := memoryObjects()
	for x, h := range heads {
		whole, _ := modelSplit(h, objects[x])
		refused := copied(whole)
		refused[len(refused)-1].Index = 0
		for _, plain := range [][]api.Shard{whole, without(whole, r.Intn(len(whole))), without(whole, upTo(len(whole))...), refused, whole[1:]} {
			o := own(plain)
			before := o.snapshot()
			for _, fill := range []byte{0, 171} { // one of them is another value than stands there
				b, err := stripe.Join(o.shards)
				if want, wantErr := modelJoin(plain); !bytes.Equal(b, want) || err != wantErr {
					t.Fatalf("Join of shards with room behind = %v, %d, not %v, %d", b, err, want, wantErr)
				}
				off := r.Intn(len(objects[x]) + 1)
				piece, _ := stripe.Piece(o.shards, off, 3)
				if want, _ := modelPiece(plain, off, 3); !bytes.Equal(piece, want) {
					t.Fatalf("Piece of shards with room behind = %v, not %v", piece, want)
				}
				overwrite(b, fill)
				overwrite(piece, fill)
				if !o.equal(before) {
					t.Fatalf("Join or Piece of %v changed or answered what it was handed", h)
				}
			}
		}
	}
}

// The page: what Join and Piece answered is not touched by what becomes of the shards, nor of another answer.
func TestObjectsShareNoMemory(t *testing.T) {
	heads, objects := memoryObjects()
	for x, h := range heads {
		data := objects[x]
		o := own(mustSplit(t, h, data))
		b, _ := stripe.Join(o.shards)
		other, _ := stripe.Join(o.shards)
		piece, _ := stripe.Piece(o.shards, 1, 5)
		second, _ := stripe.Piece(o.shards, 0, len(data))
		overwrite(other, 99)
		overwrite(second, 98)
		for _, block := range o.blocks {
			overwrite(block, 97)
		}
		if !bytes.Equal(b, data) || !bytes.Equal(piece, fromOn(data, 1, 5)) {
			t.Fatalf("what Join or Piece of %v answered is not its own", h)
		}
	}
}

// A piece does not hold the whole object's memory.
func TestAPieceIsSmall(t *testing.T) {
	l := mustSplit(t, withShape(2, 1, 65536), make([]byte, 131072))
	if b, err := stripe.Piece(l, 5, 3); err != api.OK || len(b) != 3 || cap(b) > 64 {
		t.Errorf("Piece = %v, %d, with room for %d", b, err, cap(b))
	}
}

// The page
func TestNumbersShareNoMemory(t *testing.T) {
	shape := api.Shape{K: 2, M: 1, Block: 4}
	first, _ := stripe.Blocks(shape, 27)
	second, _ := stripe.Blocks(shape, 27)
	overwrite(first, 99)
	third, _ := stripe.Blocks(shape, 27)
	if want := []int{4, 4, 4, 2}; !slices.Equal(second, want) || !slices.Equal(third, want) {
		t.Errorf("Blocks = %v, %v", second, third)
	}
}

// No call keeps anything: each answers the same whatever is called beside it.
func TestManyCallsAtOnce(t *testing.T) {
	heads, objects := memoryObjects()
	var lists [][]api.Shard
	for x, h := range heads {
		l, _ := modelSplit(h, objects[x])
		lists = append(lists, l)
	}
	var group sync.WaitGroup
	for range 8 {
		group.Go(func() {
			for x, h := range heads {
				l, err := stripe.Split(h, objects[x])
				if !sameShards(l, lists[x]) || err != api.OK {
					t.Errorf("Split of %v beside others", h)
				}
				b, err := stripe.Join(lists[x])
				piece, err2 := stripe.Piece(lists[x], 2, 7)
				if !bytes.Equal(b, objects[x]) || !bytes.Equal(piece, fromOn(objects[x], 2, 7)) || err != api.OK || err2 != api.OK {
					t.Errorf("Join and Piece of %v beside others", h)
				}
			}
		})
	}
	group.Wait()
}

// W0: whatever is handed in, a call ends and does not panic.
func TestEveryCallEnds(t *testing.T) {
	r := source(122)
	for range 20000 {
		n := func() int { return pick(r, numbers()...) }
		head := func() api.Head {
			return api.Head{Shape: pick(r, api.Shape{K: n(), M: n(), Block: n()}, api.Shape{K: 2, M: 1, Block: 4}, api.Shape{}), Key: string(someBytes(r, r.Intn(3))), Size: n(), Index: n(), Gen: api.Gen{Epoch: n(), Count: n()}}
		}
		shards := make([]api.Shard, r.Intn(5))
		for i := range shards {
			shards[i].Head = head()
			for range r.Intn(3) {
				shards[i].Blocks = append(shards[i].Blocks, someBytes(r, r.Intn(5)))
			}
		}
		h := head()
		stripe.Blocks(h.Shape, h.Size)
		stripe.Split(h, someBytes(r, r.Intn(50)))
		stripe.Where(h.Shape, h.Size, n(), n())
		stripe.Join(shards)
		stripe.Piece(shards, n(), n())
	}
}

// W0: many stripes of many places end soon: the work of finding a matrix is not done for each of them.
func TestManyStripesOfManyPlaces(t *testing.T) {
	began := time.Now()
	data := someBytes(source(123), 128*4096)
	l := mustSplit(t, withShape(128, 127, 1), data)
	left := without(l, upTo(127)...)
	if b, err := stripe.Join(left); err != api.OK || !bytes.Equal(b, data) {
		t.Errorf("Join = %d bytes, %d", len(b), err)
	}
	if b, err := stripe.Piece(left, 128*4000, 300); err != api.OK || !bytes.Equal(b, data[128*4000:128*4000+300]) {
		t.Errorf("Piece = %d bytes, %d", len(b), err)
	}
	if took := time.Since(began); took > 20*time.Second {
		t.Errorf("it took %v", took)
	}
}

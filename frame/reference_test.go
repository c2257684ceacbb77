package frame_test

import (
	"bytes"
	"encoding/binary"
	"hash/crc32"
	"math"
	"math/big"
	"math/rand"
	"slices"
	"strings"
	"testing"

	"cairn/api"
	"cairn/frame"
)

func source(seed int64) *rand.Rand { return rand.New(rand.NewSource(seed)) }

func someBytes(r *rand.Rand, n int) []byte {
	b := make([]byte, n)
	r.Read(b)
	return b
}

// pick is one of the list.
func pick[E any](r *rand.Rand, l ...E) E { return l[r.Intn(len(l))] }

// plainHead is the head of the chapter's examples.
func plainHead() api.Head {
	return api.Head{Store: [8]byte{1, 1, 1, 1, 1, 1, 1, 1}, Shape: api.Shape{K: 2, M: 1, Block: 4}, Key: "a", Size: 10, Index: 2, Gen: api.Gen{Epoch: 3, Count: 5}}
}

func plainShard() api.Shard {
	return api.Shard{Head: plainHead(), Blocks: [][]byte{{9, 8, 7, 6}, {5}}}
}

// with is the head of the examples with something changed.
func with(change func(h *api.Head)) api.Head {
	h := plainHead()
	change(&h)
	return h
}

// Each condition of a head that may be, in the page's and the chapter's words, reckoned without bounds.

func whole(n int) *big.Int { return big.NewInt(int64(n)) }

func from(least, n, greatest *big.Int) bool { return least.Cmp(n) <= 0 && n.Cmp(greatest) <= 0 }

func isShape(s api.Shape) bool {
	n := new(big.Int).Add(whole(s.K), whole(s.M))
	return from(whole(1), whole(s.M), whole(s.K)) && from(n, n, whole(255)) && from(whole(1), whole(s.Block), whole(65536))
}

// ceil is a divided by b, rounded up.
func ceil(a, b *big.Int) *big.Int {
	quotient, rest := new(big.Int).DivMod(a, b, new(big.Int))
	if rest.Sign() > 0 {
		quotient.Add(quotient, whole(1))
	}
	return quotient
}

func stripeBytes(s api.Shape) *big.Int { return new(big.Int).Mul(whole(s.K), whole(s.Block)) }

// fits is said of a shape that may be, and a size of 0 or above.
func fits(s api.Shape, size int) bool {
	return ceil(whole(size), stripeBytes(s)).Cmp(whole(4096)) <= 0
}

// sizeFault is what Check says of the Shape and the Size.
func sizeFault(s api.Shape, size int) api.Errno {
	switch {
	case !isShape(s):
		return api.ErrShape
	case size < 0:
		return api.ErrArg
	case size > 1048576 || !fits(s, size):
		return api.ErrLarge
	}
	return api.OK
}

// headFault is what Check says.
func headFault(h api.Head) api.Errno {
	most := new(big.Int).Sub(new(big.Int).Lsh(whole(1), 32), whole(1))
	switch {
	case !isShape(h.Shape):
		return api.ErrShape
	case h.Key == "" || len(h.Key) >= 256:
		return api.ErrKey
	case sizeFault(h.Shape, h.Size) != api.OK:
		return sizeFault(h.Shape, h.Size)
	case h.Index < 0 || whole(h.Index).Cmp(new(big.Int).Add(whole(h.Shape.K), whole(h.Shape.M))) >= 0:
		return api.ErrArg
	case !from(whole(1), whole(h.Gen.Epoch), most) || !from(whole(1), whole(h.Gen.Count), most):
		return api.ErrArg
	}
	return api.OK
}

// lengthsOf are the blocks' lengths by the words of the page: as many as there are stripes, all of Block bytes but the last.
func lengthsOf(s api.Shape, size int) []int {
	count := int(ceil(whole(size), stripeBytes(s)).Int64())
	l := slices.Repeat([]int{s.Block}, count)
	if count > 0 {
		last := size - (count-1)*s.K*s.Block
		l[count-1] = int(ceil(whole(last), whole(s.K)).Int64())
	}
	return l
}

// sum is the CRC-32C of the pieces, one behind the other, by the library.
func sum(pieces ...[]byte) []byte {
	return low(crc32.Checksum(slices.Concat(pieces...), crc32.MakeTable(crc32.Castagnoli)))
}

// low is a number in four bytes, the lowest first.
func low(v uint32) []byte { return binary.LittleEndian.AppendUint32(nil, v) }

// raw is what a head's bytes say, whether it may be or not.
type raw struct {
	store        [8]byte
	k, m, index  byte
	block, size  uint32
	epoch, count uint32
	key          string // below 256 bytes
}

// rawOf is a head whose numbers have room in their bytes.
func rawOf(h api.Head) raw {
	return raw{h.Store, byte(h.Shape.K), byte(h.Shape.M), byte(h.Index), uint32(h.Shape.Block), uint32(h.Size), uint32(h.Gen.Epoch), uint32(h.Gen.Count), h.Key}
}

func (h raw) head() api.Head {
	return api.Head{Store: h.store, Shape: api.Shape{K: int(h.k), M: int(h.m), Block: int(h.block)}, Key: h.key, Size: int(h.size), Index: int(h.index), Gen: api.Gen{Epoch: int(h.epoch), Count: int(h.count)}}
}

// first are the 32 bytes at 0.
func (h raw) first() []byte {
	return slices.Concat([]byte{67, 82, 78, 2}, h.store[:], []byte{h.k, h.m}, low(h.block), low(h.size), []byte{h.index}, low(h.epoch), low(h.count), []byte{byte(len(h.key))})
}

// bytes are the head's bytes, with right sums.
func (h raw) bytes() []byte {
	first := h.first()
	return slices.Concat(first, sum(first), []byte(h.key), sum(first, []byte(h.key)))
}

// formOf is the form of a shard by the chapter's table.
func formOf(s api.Shard) []byte {
	form := rawOf(s.Head).bytes()
	headSum := form[len(form)-4:]
	parts := [][]byte{form}
	for j, block := range s.Blocks {
		parts = append(parts, block, sum(headSum, low(uint32(j)), block))
	}
	return slices.Concat(parts...)
}

// modelHead is ParseHead in the chapter's words.
func modelHead(b []byte) (api.Head, api.Errno) {
	if len(b) < 36 {
		return api.Head{}, api.ErrCut
	}
	if !bytes.Equal(b[:4], []byte{67, 82, 78, 2}) {
		return api.Head{}, api.ErrMagic
	}
	if !bytes.Equal(b[32:36], sum(b[:32])) {
		return api.Head{}, api.ErrSum
	}
	l := int(b[31])
	if len(b) < 40+l {
		return api.Head{}, api.ErrCut
	}
	if !bytes.Equal(b[36+l:40+l], sum(b[:32], b[36:36+l])) {
		return api.Head{}, api.ErrSum
	}
	at := binary.LittleEndian.Uint32
	h := raw{[8]byte(b[4:12]), b[12], b[13], b[22], at(b[14:]), at(b[18:]), at(b[23:]), at(b[27:]), string(b[36 : 36+l])}.head()
	if headFault(h) != api.OK {
		return api.Head{}, api.ErrHead
	}
	return h, api.OK
}

// modelFrames are where the frames of a head begin, and behind these where the form ends.
func modelFrames(h api.Head) []int {
	starts := []int{40 + len(h.Key)}
	for _, l := range lengthsOf(h.Shape, h.Size) {
		starts = append(starts, starts[len(starts)-1]+l+4)
	}
	return starts
}

// modelSpoilt is Spoilt in the chapter's words.
func modelSpoilt(b []byte) ([]int, api.Errno) {
	h, err := modelHead(b)
	if err != api.OK {
		return nil, err
	}
	starts := modelFrames(h)
	headSum := b[starts[0]-4 : starts[0]]
	var spoilt []int
	for j := range len(starts) - 1 {
		if starts[j+1] <= len(b) {
			f := b[starts[j]:starts[j+1]]
			if bytes.Equal(f[len(f)-4:], sum(headSum, low(uint32(j)), f[:len(f)-4])) {
				continue
			}
		}
		spoilt = append(spoilt, j)
	}
	return spoilt, api.OK
}

// modelShard is Parse in the chapter's words.
func modelShard(b []byte) (api.Shard, api.Errno) {
	h, err := modelHead(b)
	if err != api.OK {
		return api.Shard{}, err
	}
	starts := modelFrames(h)
	if end := starts[len(starts)-1]; len(b) < end {
		return api.Shard{}, api.ErrCut
	} else if len(b) > end {
		return api.Shard{}, api.ErrTail
	}
	if spoilt, _ := modelSpoilt(b); len(spoilt) > 0 {
		return api.Shard{}, api.ErrSum
	}
	s := api.Shard{Head: h}
	for j := range len(starts) - 1 {
		s.Blocks = append(s.Blocks, b[starts[j]:starts[j+1]-4])
	}
	return s, api.OK
}

func sameShard(a, b api.Shard) bool {
	return a.Head == b.Head && slices.EqualFunc(a.Blocks, b.Blocks, bytes.Equal)
}

// checkReads holds ParseHead, Parse and Spoilt of the bytes against the model's. It answers what Parse did.
func checkReads(t *testing.T, what string, b []byte) api.Errno {
	t.Helper()
	h, err := frame.ParseHead(b)
	if wantHead, want := modelHead(b); h != wantHead || err != want {
		t.Fatalf("%s: ParseHead = %v, %d, not %v, %d", what, h, err, wantHead, want)
	}
	spoilt, err := frame.Spoilt(b)
	if wantSpoilt, want := modelSpoilt(b); !slices.Equal(spoilt, wantSpoilt) || err != want {
		t.Fatalf("%s: Spoilt = %v, %d, not %v, %d", what, spoilt, err, wantSpoilt, want)
	}
	s, err := frame.Parse(b)
	if wantShard, want := modelShard(b); !sameShard(s, wantShard) || err != want {
		t.Fatalf("%s: Parse = %v, %d, not %v, %d", what, s, err, wantShard, want)
	}
	return err
}

// shapes are small ones, and those at their limits.
func shapes() []api.Shape {
	return []api.Shape{
		{K: 1, M: 1, Block: 1}, {K: 2, M: 1, Block: 4}, {K: 3, M: 3, Block: 1}, {K: 4, M: 2, Block: 7}, {K: 10, M: 4, Block: 100},
		{K: 254, M: 1, Block: 1}, {K: 128, M: 127, Block: 3}, {K: 1, M: 1, Block: 65536}, {K: 254, M: 1, Block: 65536},
	}
}

// fill makes blocks of the lengths that the head asks for.
func fill(h api.Head, fill func(n int) []byte) api.Shard {
	s := api.Shard{Head: h}
	for _, n := range lengthsOf(h.Shape, h.Size) {
		s.Blocks = append(s.Blocks, fill(n))
	}
	return s
}

// someShard is one that may be, of few bytes and any numbers.
func someShard(r *rand.Rand) api.Shard {
	k := 1 + r.Intn(6)
	h := api.Head{
		Store: [8]byte(someBytes(r, 8)),
		Shape: api.Shape{K: k, M: 1 + r.Intn(k), Block: 1 + r.Intn(8)},
		Key:   string(someBytes(r, 1+r.Intn(9))),
		Gen:   api.Gen{Epoch: pick(r, 1, 2, 256, math.MaxUint32, 1+r.Intn(1<<32-1)), Count: pick(r, 1, 2, 65536, math.MaxUint32, 1+r.Intn(1<<32-1))},
	}
	h.Index = r.Intn(h.Shape.K + h.Shape.M)
	h.Size = r.Intn(5*h.Shape.K*h.Shape.Block + 1)
	return fill(h, func(n int) []byte { return someBytes(r, n) })
}

// edgeShards are shards without a block, with one, with the greatest key, with the most blocks, of shapes at their limits, of numbers at theirs.
func edgeShards() []api.Shard {
	r := source(81)
	heads := []api.Head{
		plainHead(),
		with(func(h *api.Head) { h.Size = 0 }),
		with(func(h *api.Head) { h.Size = 1 }),
		with(func(h *api.Head) { h.Size = 8 }),
		with(func(h *api.Head) { h.Size = 9 }),
		with(func(h *api.Head) { h.Key = strings.Repeat("\xff", 255) }),
		with(func(h *api.Head) { h.Key = strings.Repeat("\x00", 255) }),
		with(func(h *api.Head) { h.Key = "\x00" }),
		with(func(h *api.Head) { h.Store = [8]byte{} }),
		with(func(h *api.Head) { h.Store = [8]byte{255, 254, 253, 252, 251, 250, 249, 248} }),
		with(func(h *api.Head) { h.Index = 0 }),
		with(func(h *api.Head) { h.Gen = api.Gen{Epoch: 1, Count: 1} }),
		with(func(h *api.Head) { h.Gen = api.Gen{Epoch: api.MaxEpoch, Count: api.MaxCount} }),
		with(func(h *api.Head) { h.Gen = api.Gen{Epoch: 0x04030201, Count: 0x08070605} }),
		with(func(h *api.Head) { h.Shape, h.Size, h.Index = api.Shape{K: 254, M: 1, Block: 65536}, 0x0a0b0c, 254 }),
		with(func(h *api.Head) {
			h.Shape, h.Size, h.Index = api.Shape{K: 128, M: 127, Block: 0x0102}, 128*0x0102*3+1, 254
		}),
		with(func(h *api.Head) { h.Shape, h.Size, h.Index = api.Shape{K: 1, M: 1, Block: 1}, 4096, 1 }),
	}
	var l []api.Shard
	for _, h := range heads {
		l = append(l, fill(h, func(n int) []byte { return someBytes(r, n) }))
	}
	return l
}

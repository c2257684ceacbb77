package stripe_test

import (
	"bytes"
	"math"
	"math/rand"
	"slices"
	"testing"

	"cairn/api"
	"cairn/frame"
	"cairn/stripe"
)

func source(seed int64) *rand.Rand { return rand.New(rand.NewSource(seed)) }

func someBytes(r *rand.Rand, n int) []byte {
	b := make([]byte, n)
	r.Read(b)
	return b
}

// pick is one of the list.
func pick[E any](r *rand.Rand, l ...E) E { return l[r.Intn(len(l))] }

// plainHead is a head that may be, of the examples' shape. Its Size and Index say nothing to Split.
func plainHead() api.Head {
	return api.Head{Store: [8]byte{1, 2, 3}, Shape: api.Shape{K: 2, M: 1, Block: 4}, Key: "a", Size: -5, Index: 77, Gen: api.Gen{Epoch: 3, Count: 5}}
}

// with is that head with something changed.
func with(change func(h *api.Head)) api.Head {
	h := plainHead()
	change(&h)
	return h
}

func withShape(k, m, block int) api.Head {
	return with(func(h *api.Head) { h.Shape = api.Shape{K: k, M: m, Block: block} })
}

// products are those of all pairs of elements, a bit at a time; inverses those of all elements but zero. Nothing here goes through the layers below.
var products, inverses = tables()

func tables() (products [256][256]byte, inverses [256]byte) {
	for a := range 256 {
		for b := range 256 {
			product, high := 0, a
			for bits := b; bits > 0; bits >>= 1 {
				if bits&1 == 1 {
					product ^= high
				}
				high <<= 1
				if high > 255 {
					high ^= 285
				}
			}
			products[a][b] = byte(product)
			if product == 1 {
				inverses[a] = byte(b)
			}
		}
	}
	return products, inverses
}

// shares is what the value at the point x takes of the values at the points of the places: Lagrange's products.
func shares(places []int, x int) []byte {
	list := make([]byte, len(places))
	for j, p := range places {
		share := byte(1)
		for _, q := range places {
			if q != p {
				share = products[share][products[x^q][inverses[p^q]]]
			}
		}
		list[j] = share
	}
	return list
}

// wordThrough is n rows of one length: in each column the values of the one polynomial that has those of the rows at the places.
func wordThrough(n int, places []int, rows [][]byte) [][]byte {
	word := make([][]byte, n)
	for x := range word {
		word[x] = make([]byte, len(rows[0]))
		for j, share := range shares(places, x) {
			for c, b := range rows[j] {
				word[x][c] ^= products[share][b]
			}
		}
	}
	return word
}

func upTo(n int) []int {
	list := make([]int, n)
	for i := range list {
		list[i] = i
	}
	return list
}

// stripesOf are the object's bytes, K * Block at a time.
func stripesOf(s api.Shape, data []byte) [][]byte {
	var l [][]byte
	for len(data) > s.K*s.Block {
		l = append(l, data[:s.K*s.Block])
		data = data[s.K*s.Block:]
	}
	if len(data) > 0 {
		l = append(l, data)
	}
	return l
}

func ceil(a, b int) int {
	if a%b == 0 {
		return a / b
	}
	return a/b + 1
}

// rowsOf are the K rows of a stripe, zeros where it is at its end.
func rowsOf(k int, stripe []byte) [][]byte {
	length := ceil(len(stripe), k)
	filled := append(slices.Clone(stripe), make([]byte, k*length-len(stripe))...)
	var rows [][]byte
	for i := range k {
		rows = append(rows, filled[i*length:(i+1)*length])
	}
	return rows
}

// modelSplit is Split in the chapter's words, stripe by stripe.
func modelSplit(h api.Head, data []byte) ([]api.Shard, api.Errno) {
	h.Size, h.Index = len(data), 0
	if err := frame.Check(h); err != api.OK {
		return nil, err
	}
	n := h.Shape.K + h.Shape.M
	shards := make([]api.Shard, n)
	for i := range shards {
		shards[i].Head = h
		shards[i].Index = i
	}
	for _, s := range stripesOf(h.Shape, data) {
		for i, block := range wordThrough(n, upTo(h.Shape.K), rowsOf(h.Shape.K, s)) {
			shards[i].Blocks = append(shards[i].Blocks, block)
		}
	}
	return shards, api.OK
}

func isMissing(s api.Shard) bool { return s.Shape.K == 0 && s.Shape.M == 0 && s.Shape.Block == 0 }

// likeButIndex tells field by field whether two heads are the same in all but the Index.
func likeButIndex(a, b api.Head) bool {
	return a.Store == b.Store && a.Shape.K == b.Shape.K && a.Shape.M == b.Shape.M && a.Shape.Block == b.Shape.Block &&
		a.Key == b.Key && a.Size == b.Size && a.Gen.Epoch == b.Gen.Epoch && a.Gen.Count == b.Gen.Count
}

func lengthsOf(blocks [][]byte) []int {
	var l []int
	for _, b := range blocks {
		l = append(l, len(b))
	}
	return l
}

// modelFault is the error that Join answers; and the model's head, and the places that are not missing.
func modelFault(shards []api.Shard) (model api.Head, places []int, err api.Errno) {
	for i, s := range shards {
		if !isMissing(s) {
			places = append(places, i)
		}
	}
	if len(places) == 0 {
		return model, nil, api.ErrFew
	}
	model = shards[places[0]].Head
	if err := frame.Check(model); err != api.OK {
		return model, nil, err
	}
	if len(shards) != model.Shape.K+model.Shape.M {
		return model, nil, api.ErrRows
	}
	var want []int
	for _, s := range stripesOf(model.Shape, make([]byte, model.Size)) {
		want = append(want, ceil(len(s), model.Shape.K))
	}
	for _, i := range places {
		s := shards[i]
		switch {
		case !likeButIndex(s.Head, model):
			return model, nil, api.ErrMixed
		case s.Index != i:
			return model, nil, api.ErrMixed
		case !slices.Equal(lengthsOf(s.Blocks), want):
			return model, nil, api.ErrLengths
		}
	}
	if len(places) < model.Shape.K {
		return model, nil, api.ErrFew
	}
	return model, places, api.OK
}

// modelJoin is Join in the chapter's words, stripe by stripe.
func modelJoin(shards []api.Shard) ([]byte, api.Errno) {
	model, places, err := modelFault(shards)
	if err != api.OK {
		return nil, err
	}
	places = places[:model.Shape.K]
	var data []byte
	for j := range shards[places[0]].Blocks {
		var rows [][]byte
		for _, i := range places {
			rows = append(rows, shards[i].Blocks[j])
		}
		word := wordThrough(model.Shape.K, places, rows)
		stripe := bytes.Join(word, nil)
		data = append(data, stripe[:min(len(stripe), model.Shape.K*model.Shape.Block, model.Size-len(data))]...)
	}
	return data, api.OK
}

// fromOn is the bytes from off on, n of them, or as many as there are.
func fromOn(data []byte, off, n int) []byte {
	var l []byte
	for i, b := range data {
		if i >= off && len(l) < n {
			l = append(l, b)
		}
	}
	return l
}

func modelPiece(shards []api.Shard, off, n int) ([]byte, api.Errno) {
	data, err := modelJoin(shards)
	if err != api.OK {
		return nil, err
	}
	if off < 0 || n < 0 {
		return nil, api.ErrArg
	}
	return fromOn(data, off, n), api.OK
}

// modelWhere looks at each byte of the object, in which stripe it lies.
func modelWhere(shape api.Shape, size, off, n int) (from, to, skip int, err api.Errno) {
	if _, err := frame.Sizes(shape, size); err != api.OK {
		return 0, 0, 0, err
	}
	if off < 0 || n < 0 {
		return 0, 0, 0, api.ErrArg
	}
	found, at := 0, 0
	for j, s := range stripesOf(shape, make([]byte, size)) {
		for i := range s {
			if at >= off && found < n {
				if found == 0 {
					from, skip = j, i
				}
				to = j + 1
				found++
			}
			at++
		}
	}
	return from, to, skip, api.OK
}

func sameBlocks(a, b [][]byte) bool { return slices.EqualFunc(a, b, bytes.Equal) }

func sameShard(a, b api.Shard) bool {
	return a.Head == b.Head && sameBlocks(a.Blocks, b.Blocks)
}

func sameShards(a, b []api.Shard) bool { return slices.EqualFunc(a, b, sameShard) }

// copied is the shards anew, each block too.
func copied(shards []api.Shard) []api.Shard {
	var l []api.Shard
	for _, s := range shards {
		var blocks [][]byte
		for _, b := range s.Blocks {
			blocks = append(blocks, slices.Clone(b))
		}
		l = append(l, api.Shard{Head: s.Head, Blocks: blocks})
	}
	return l
}

// without is the shards anew, with those at the places missing.
func without(shards []api.Shard, places ...int) []api.Shard {
	l := copied(shards)
	for _, i := range places {
		l[i] = api.Shard{}
	}
	return l
}

func mustSplit(t *testing.T, h api.Head, data []byte) []api.Shard {
	t.Helper()
	l, err := stripe.Split(h, data)
	if err != api.OK {
		t.Fatalf("Split(%v, %d bytes) = %d", h, len(data), err)
	}
	return l
}

// smallShapes are those of at most six places and short blocks.
func smallShapes() []api.Shape {
	var l []api.Shape
	for k := 1; k <= 5; k++ {
		for m := 1; m <= k && k+m <= 6; m++ {
			for _, block := range []int{1, 2, 3, 4, 7} {
				l = append(l, api.Shape{K: k, M: m, Block: block})
			}
		}
	}
	return l
}

// edgeObjects are a shape at its limits, and how many bytes an object has there.
func edgeObjects() []struct {
	shape api.Shape
	size  int
} {
	return []struct {
		shape api.Shape
		size  int
	}{
		{api.Shape{K: 1, M: 1, Block: 1}, 4096},
		{api.Shape{K: 1, M: 1, Block: 65536}, 65537},
		{api.Shape{K: 2, M: 1, Block: 65536}, 131072},
		{api.Shape{K: 2, M: 2, Block: 3}, 4096 * 6},
		{api.Shape{K: 254, M: 1, Block: 1}, 254*3 + 1},
		{api.Shape{K: 254, M: 1, Block: 65536}, 1000},
		{api.Shape{K: 128, M: 127, Block: 1}, 128 * 2},
		{api.Shape{K: 128, M: 127, Block: 65536}, 1025},
		{api.Shape{K: 200, M: 55, Block: 2}, 999},
		{api.Shape{K: 10, M: 4, Block: 100}, 5000},
	}
}

// numbers are those at which ints go wrong.
func numbers() []int {
	return []int{math.MinInt, math.MinInt + 1, -1 << 32, -1, 0, 1, 2, 3, 4, 7, 8, 9, 10, 128, 254, 255, 256, 65536, 65537, 1 << 20, 1<<20 + 1, 1 << 32, 1 << 62, math.MaxInt - 1, math.MaxInt}
}

// The reference holds itself against the chapter's example.
func TestTheReference(t *testing.T) {
	l, err := modelSplit(plainHead(), []byte("hello"))
	if err != api.OK || !sameBlocks(l[2].Blocks, [][]byte{{96, 113, 180}}) {
		t.Errorf("%v, %d", l, err)
	}
	b, err := modelJoin(without(l, 0))
	if err != api.OK || string(b) != "hello" {
		t.Errorf("%q, %d", b, err)
	}
}

package stripe

import (
	"slices"

	"cairn/api"
	"cairn/code"
	"cairn/frame"
)

// Join is the object of the shards, out of those at the K least places that are not missing. (P10.3)
func Join(shards []api.Shard) ([]byte, api.Errno) {
	h, err := commonHead(shards)
	if err != api.OK {
		return nil, err
	}
	lengths, _ := Blocks(h.Shape, h.Size)
	return stripes(h, shards, 0, len(lengths)), api.OK
}

// Piece is the n bytes of the shards' object from off on, or as many as there are. (P10.5)
func Piece(shards []api.Shard, off, n int) ([]byte, api.Errno) {
	h, err := commonHead(shards)
	if err != api.OK {
		return nil, err
	}
	from, to, skip, err := Where(h.Shape, h.Size, off, n)
	if err != api.OK {
		return nil, err
	}
	piece := stripes(h, shards, from, to)[skip:]
	// A copy, so that the stripes around the piece are not held along with it.
	return slices.Clone(piece[:min(n, len(piece))]), api.OK
}

// commonHead is the head of the model, if K shards or more are its object's, and the others missing.
func commonHead(shards []api.Shard) (api.Head, api.Errno) {
	first := slices.IndexFunc(shards, isThere)
	if first < 0 {
		return api.Head{}, api.ErrFew
	}
	model := shards[first].Head
	if err := frame.Check(model); err != api.OK {
		return api.Head{}, err
	}
	if len(shards) != model.Shape.K+model.Shape.M {
		return api.Head{}, api.ErrRows
	}
	lengths, _ := Blocks(model.Shape, model.Size)
	there := 0
	for place, s := range shards {
		if !isThere(s) {
			continue
		}
		if err := shardFault(s, model, place, lengths); err != api.OK {
			return api.Head{}, err
		}
		there++
	}
	if there < model.Shape.K {
		return api.Head{}, api.ErrFew
	}
	return model, api.OK
}

// isThere tells whether the shard is not missing.
func isThere(s api.Shard) bool {
	return s.Shape != api.Shape{}
}

// shardFault is OK, if the shard is the model's object's, belongs at the place and has blocks of these lengths.
func shardFault(s api.Shard, model api.Head, place int, lengths []int) api.Errno {
	model.Index = place
	if s.Head != model {
		return api.ErrMixed
	}
	if len(s.Blocks) != len(lengths) {
		return api.ErrLengths
	}
	for j := range len(lengths) {
		if len(s.Blocks[j]) != lengths[j] {
			return api.ErrLengths
		}
	}
	return api.OK
}

// stripes are the bytes of the object's stripes from the number from to the number to less one.
func stripes(h api.Head, shards []api.Shard, from, to int) []byte {
	if from == to { // the code would take rows without bytes for lost ones
		return nil
	}
	rows := make([][]byte, len(shards))
	for place, s := range shards {
		if isThere(s) {
			rows[place] = slices.Concat(s.Blocks[from:to]...)
		}
	}
	// The rows are of one length, K of them or more are there: no call here answers an error.
	lengths, _ := Blocks(h.Shape, h.Size)
	c, _ := code.New(h.Shape.K, h.Shape.M)
	word, _ := c.Rebuild(rows)
	size := min(h.Size, to*stripeBytes(h.Shape)) - from*stripeBytes(h.Shape)
	return object(word[:h.Shape.K], lengths[from:to], size)
}

// object is as many bytes of the rows, stripe by stripe: what dataRows laid there.
func object(rows [][]byte, lengths []int, size int) []byte {
	data := make([]byte, size)
	left := data
	at := 0
	for j := range len(lengths) {
		for i := range len(rows) {
			n := copy(left, rows[i][at:at+lengths[j]])
			left = left[n:]
		}
		at += lengths[j]
	}
	return data
}

package stripe

import (
	"cairn/api"
	"cairn/code"
	"cairn/frame"
)

// Split is the object's shards, one for each place. (P10.2)
func Split(h api.Head, data []byte) ([]api.Shard, api.Errno) {
	h.Size, h.Index = len(data), 0
	if err := frame.Check(h); err != api.OK {
		return nil, err
	}
	// A head that may be has a shape and a size that may be: no call from here on answers an error.
	lengths, _ := Blocks(h.Shape, h.Size)
	c, _ := code.New(h.Shape.K, h.Shape.M)
	word, _ := c.Encode(dataRows(h.Shape.K, lengths, data))
	shards := make([]api.Shard, len(word))
	for place, row := range word {
		h.Index = place
		shards[place] = api.Shard{Head: h, Blocks: cut(row, lengths)}
	}
	return shards, api.OK
}

// dataRows are, for each place below k, its blocks one behind the other. A word is one in each column alone, so that all stripes are coded as one word: much less work than one by one, where they are many and small.
func dataRows(k int, lengths []int, data []byte) [][]byte {
	rows := make([][]byte, k)
	for i := range k {
		rows[i] = make([]byte, total(lengths)) // where no bytes are left for it, zeros stand
	}
	at := 0
	for j := range len(lengths) {
		for i := range k {
			n := copy(rows[i][at:at+lengths[j]], data)
			data = data[n:]
		}
		at += lengths[j]
	}
	return rows
}

// cut is the blocks of a row, each in memory of its own.
func cut(row []byte, lengths []int) [][]byte {
	blocks := make([][]byte, len(lengths))
	for j := range len(lengths) {
		blocks[j] = make([]byte, lengths[j])
		n := copy(blocks[j], row)
		row = row[n:]
	}
	return blocks
}

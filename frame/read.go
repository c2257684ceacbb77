package frame

import (
	"bytes"

	"cairn/api"
	"cairn/codec"
	"cairn/crc"
)

// ParseHead reads the head alone, whatever stands behind it. (P8.4)
func ParseHead(b []byte) (api.Head, api.Errno) {
	if len(b) < keyAt {
		return api.Head{}, api.ErrCut
	}
	if !bytes.HasPrefix(b, []byte(mark)) {
		return api.Head{}, api.ErrMagic
	}
	fixed := b[:fixedBytes]
	firstSum := crc.Sum(fixed)
	if sumAt(b, fixedBytes) != firstSum {
		return api.Head{}, api.ErrSum
	}
	keyEnd := keyAt + int(b[keyCountAt])
	if len(b) < keyEnd+sumBytes {
		return api.Head{}, api.ErrCut
	}
	key := b[keyAt:keyEnd]
	if sumAt(b, keyEnd) != crc.More(firstSum, key) {
		return api.Head{}, api.ErrSum
	}
	// Right sums say that the bytes are as somebody wrote them, not that Encode did.
	h := readHead(fixed, key)
	if Check(h) != api.OK {
		return api.Head{}, api.ErrHead
	}
	return h, api.OK
}

// Parse reads a shard. (P8.5)
func Parse(b []byte) (api.Shard, api.Errno) {
	h, err := ParseHead(b)
	if err != api.OK {
		return api.Shard{}, err
	}
	length, _ := Length(h)
	if len(b) < length {
		return api.Shard{}, api.ErrCut
	}
	if len(b) > length {
		return api.Shard{}, api.ErrTail
	}
	s := api.Shard{Head: h}
	for _, block := range rightBlocks(h, b) {
		if block == nil {
			return api.Shard{}, api.ErrSum
		}
		s.Blocks = append(s.Blocks, bytes.Clone(block))
	}
	return s, api.OK
}

// Spoilt lists the blocks whose frame is not all there, or whose sum is not right. (P8.6)
func Spoilt(b []byte) ([]int, api.Errno) {
	h, err := ParseHead(b)
	if err != api.OK {
		return nil, err
	}
	var spoilt []int
	for j, block := range rightBlocks(h, b) {
		if block == nil {
			spoilt = append(spoilt, j)
		}
	}
	return spoilt, api.OK
}

// readHead reads the fixed part of a head and its Key, whatever numbers stand there.
func readHead(fixed, key []byte) api.Head {
	r := codec.Open(fixed[len(mark):])
	h := api.Head{Store: [storeBytes]byte(r.Bytes(storeBytes)), Key: string(key)}
	h.Shape.K = number[uint8](r)
	h.Shape.M = number[uint8](r)
	h.Shape.Block = number[uint32](r)
	h.Size = number[uint32](r)
	h.Index = number[uint8](r)
	h.Gen.Epoch = number[uint32](r)
	h.Gen.Count = number[uint32](r)
	return h
}

// number reads a number of that kind as the int that heads have.
func number[T codec.Unsigned](r *codec.Reader) int {
	return int(codec.Take[T](r))
}

// sumAt is the sum that stands there.
func sumAt(b []byte, at int) uint32 {
	return codec.Take[uint32](codec.Open(b[at : at+sumBytes]))
}

// rightBlocks are the blocks of a head that the bytes begin with: nil in place of each that is spoilt. (None that is right is nil: a block has one byte or more.) They are the bytes' own.
func rightBlocks(h api.Head, b []byte) [][]byte {
	var blocks [][]byte
	at := headLength(h)
	headSum := sumAt(b, at-sumBytes)
	for j, length := range blockLengths(h.Shape, h.Size) {
		blocks = append(blocks, rightBlock(b, at, length, headSum, j))
		at += length + sumBytes
	}
	return blocks
}

// rightBlock is the block j, whose frame begins there; nil, if it is spoilt.
func rightBlock(b []byte, at, length int, headSum uint32, j int) []byte {
	end := at + length
	if end+sumBytes > len(b) {
		return nil
	}
	block := b[at:end]
	if sumAt(b, end) != blockSum(headSum, j, block) {
		return nil
	}
	return block
}

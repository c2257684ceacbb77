package frame

import (
	"cairn/api"
	"cairn/codec"
	"cairn/crc"
)

// Encode is the form of the shard. (P8.3)
func Encode(s api.Shard) ([]byte, api.Errno) {
	length, err := Length(s.Head)
	if err != api.OK {
		return nil, err
	}
	if !haveLengths(s.Blocks, blockLengths(s.Shape, s.Size)) {
		return nil, api.ErrHead
	}
	fixed := fixedPart(s.Head)
	firstSum := crc.Sum(fixed)
	headSum := crc.More(firstSum, []byte(s.Key))

	form := append(make([]byte, 0, length), fixed...)
	form = appendSum(form, firstSum)
	form = append(form, s.Key...)
	form = appendSum(form, headSum)
	for j, block := range s.Blocks {
		form = append(form, block...)
		form = appendSum(form, blockSum(headSum, j, block))
	}
	return form, api.OK
}

// haveLengths tells whether the blocks have just these lengths.
func haveLengths(blocks [][]byte, lengths []int) bool {
	if len(blocks) != len(lengths) {
		return false
	}
	for j, block := range blocks {
		if len(block) != lengths[j] {
			return false
		}
	}
	return true
}

// fixedPart is what stands ahead of the first sum, of a head that may be: so each number has room in its bytes.
func fixedPart(h api.Head) []byte {
	fixed := append([]byte(mark), h.Store[:]...)
	fixed = codec.Put(fixed, uint8(h.Shape.K))
	fixed = codec.Put(fixed, uint8(h.Shape.M))
	fixed = codec.Put(fixed, uint32(h.Shape.Block))
	fixed = codec.Put(fixed, uint32(h.Size))
	fixed = codec.Put(fixed, uint8(h.Index))
	fixed = codec.Put(fixed, uint32(h.Gen.Epoch))
	fixed = codec.Put(fixed, uint32(h.Gen.Count))
	return codec.Put(fixed, uint8(len(h.Key)))
}

// appendSum writes the sum's bytes behind the form. They are made apart: put behind the form, all of it would be copied with each sum.
func appendSum(form []byte, sum uint32) []byte {
	return append(form, codec.Put(nil, sum)...)
}

// blockSum is the sum of the block j. It begins with the head's sum and j, so that it is right in this place of this file alone.
func blockSum(headSum uint32, j int, block []byte) uint32 {
	place := codec.Put(codec.Put(nil, headSum), uint32(j))
	return crc.More(crc.Sum(place), block)
}

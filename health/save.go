package health

import (
	"math"

	"cairn/api"
)

// width is how many bytes the bits of a number of 32 have.
const width = 4

// Save is the board as bytes: how many places, the keep, the scores. (P27.5)
func (b *Board) Save() []byte {
	if b == nil {
		return nil
	}
	p := make([]byte, 0, 1+width+width*len(b.scores))
	p = append(p, byte(len(b.scores)))
	p = appendBits(p, b.keep)
	for _, s := range b.scores {
		p = appendBits(p, s)
	}
	return p
}

// Load is the board that Save tells so. (P27.5)
func Load(p []byte) (*Board, api.Errno) {
	if len(p) == 0 || p[0] == 0 || len(p) != 1+width+width*int(p[0]) {
		return nil, api.ErrArg
	}
	b := &Board{keep: readBits(p[1:]), scores: make([]float32, p[0])}
	if !mayKeep(b.keep) {
		return nil, api.ErrArg
	}
	for i := range b.scores {
		s := readBits(p[1+width+width*i:])
		if !mayScore(s) {
			return nil, api.ErrArg
		}
		b.scores[i] = s
	}
	return b, api.OK
}

// mayScore tells whether a place may have the score. No score that Tell gives is a zero with a sign.
func mayScore(s float32) bool { return 0 <= s && s <= 1 && !math.Signbit(float64(s)) }

// appendBits writes the bits of x behind p, the lowest byte first.
func appendBits(p []byte, x float32) []byte {
	bits := math.Float32bits(x)
	for range width {
		p = append(p, byte(bits))
		bits >>= 8
	}
	return p
}

// readBits is the number whose bits stand at the beginning of p.
func readBits(p []byte) float32 {
	var bits uint32
	for i := range width {
		bits |= uint32(p[i]) << (8 * i)
	}
	return math.Float32frombits(bits)
}

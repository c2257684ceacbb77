package crc

import (
	"math"
	"testing"
)

// P6.5: Len is modulo 2^64. Nobody can write so much: so the count is set from within.
func TestLenGoesRound(t *testing.T) {
	var s Stream
	s.count = math.MaxUint64 - 1
	for _, want := range []uint64{math.MaxUint64, 0, 1} {
		s.Write([]byte{7})
		if s.Len() != want {
			t.Errorf("Len = %d, not %d", s.Len(), want)
		}
	}
	s.count = 1<<32 - 1
	s.Write([]byte("12"))
	if s.Len() != 1<<32+1 || s.Sum() != Sum([]byte("\x07\x07\x0712")) {
		t.Errorf("Len = %d, Sum = %X", s.Len(), s.Sum())
	}
}

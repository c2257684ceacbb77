package crc_test

import (
	"testing"

	"cairn/crc"
)

// checkStream tells whether the stream is one to which just these bytes were written; it asks twice, since asking changes nothing.
func checkStream(t *testing.T, s *crc.Stream, written []byte) {
	t.Helper()
	for range 2 {
		if s.Sum() != ^walk(^uint32(0), written) || s.Len() != uint64(len(written)) {
			t.Fatalf("Sum = %X, Len = %d behind %d bytes with the sum %X", s.Sum(), s.Len(), len(written), ^walk(^uint32(0), written))
		}
	}
}

// P6.5
func TestStreamOfTheExample(t *testing.T) {
	var s crc.Stream
	s.Write([]byte("12"))
	s.Write([]byte("3456789"))
	if s.Sum() != 0xE3069283 || s.Len() != 9 {
		t.Errorf("Sum = %X, Len = %d", s.Sum(), s.Len())
	}
	s.Reset()
	if s.Sum() != 0 || s.Len() != 0 {
		t.Errorf("behind Reset: Sum = %X, Len = %d", s.Sum(), s.Len())
	}
}

// P6.5
func TestStreamOfTheZeroValue(t *testing.T) {
	var s crc.Stream
	checkStream(t, &s, nil)
	checkStream(t, &crc.Stream{}, nil)
	checkStream(t, new(crc.Stream), nil)
	s.Reset()
	checkStream(t, &s, nil)
}

// P6.5: no bytes, written at the beginning or in the middle, change nothing.
func TestStreamOfNoBytes(t *testing.T) {
	var s crc.Stream
	for _, none := range noBytes() {
		s.Write(none)
		checkStream(t, &s, nil)
	}
	s.Write([]byte{0})
	for _, none := range noBytes() {
		s.Write(none)
		checkStream(t, &s, []byte{0})
	}
}

// P6.5: pieces are summed in their order, and Reset begins anew, as often as it is called.
func TestStreamOfManyPieces(t *testing.T) {
	r := source(68)
	var s crc.Stream
	for range 10 {
		var written []byte
		for range 60 {
			piece := someBytes(r, r.Intn(30))
			s.Write(piece)
			written = append(written, piece...)
			checkStream(t, &s, written)
		}
		s.Reset()
		checkStream(t, &s, nil)
	}
}

// P6.5: a copy, made at any moment, goes its own way, and so does what it was copied from.
func TestStreamCopiedAsAValue(t *testing.T) {
	for _, begun := range []string{"", "1", "some bytes"} {
		var s crc.Stream
		s.Write([]byte(begun))
		other, third := s, s
		s.Write([]byte("one way"))
		other.Write([]byte("another"))
		checkStream(t, &s, []byte(begun+"one way"))
		checkStream(t, &other, []byte(begun+"another"))
		checkStream(t, &third, []byte(begun))
		other.Reset()
		checkStream(t, &s, []byte(begun+"one way"))
		checkStream(t, &other, nil)
		s = third
		s.Write([]byte("back"))
		checkStream(t, &s, []byte(begun+"back"))
		checkStream(t, &third, []byte(begun))
	}
}

// P6.5: two streams have nothing in common.
func TestStreamsBesideEachOther(t *testing.T) {
	var s, other crc.Stream
	s.Write([]byte("abc"))
	checkStream(t, &other, nil)
	other.Write([]byte("d"))
	s.Write([]byte("e"))
	checkStream(t, &s, []byte("abce"))
	checkStream(t, &other, []byte("d"))
}

// P6.5
func TestStreamThatIsNotThere(t *testing.T) {
	var none *crc.Stream
	for range 2 {
		none.Write([]byte("123"))
		none.Write(nil)
		if none.Sum() != 0 || none.Len() != 0 {
			t.Errorf("Sum = %X, Len = %d", none.Sum(), none.Len())
		}
		none.Reset()
	}
}

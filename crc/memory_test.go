package crc_test

import (
	"bytes"
	"math"
	"slices"
	"sync"
	"testing"

	"cairn/crc"
)

// calls are those that are handed bytes.
func calls() map[string]func(b []byte) {
	return map[string]func(b []byte){
		"Sum":   func(b []byte) { crc.Sum(b) },
		"More":  func(b []byte) { crc.More(9, b) },
		"Blind": func(b []byte) { crc.Blind(b) },
		"Write": func(b []byte) {
			var s crc.Stream
			s.Write(b)
			s.Write(b)
			s.Sum()
			s.Reset()
			s.Write(b)
		},
		"Write of none": func(b []byte) {
			var none *crc.Stream
			none.Write(b)
		},
	}
}

// texts are none, few and many bytes, blind ones too.
func texts() [][]byte {
	r := source(77)
	return [][]byte{nil, {}, {0}, {255}, []byte("123456789"), make([]byte, 100), {0xF1, 0x76, 0xEC, 0x05, 0x01}, someBytes(r, 1000)}
}

// P6.11: bytes that are handed in stay as they were, and so does the room behind them.
func TestBytesHandedInStayAsTheyWere(t *testing.T) {
	for name, call := range calls() {
		for _, text := range texts() {
			whole := append(slices.Clone(text), "the owner's"...)
			before := slices.Clone(whole)
			call(whole[:len(text)])
			if !bytes.Equal(whole, before) {
				t.Errorf("%s changed %X to %X", name, before, whole)
			}
		}
	}
}

// P6.11: the room behind what is handed in is not looked at.
func TestRoomBehindIsNotSummed(t *testing.T) {
	for _, text := range texts() {
		whole := append(slices.Clone(text), 1, 2, 3)
		inner := whole[:len(text)]
		exact := slices.Clip(slices.Clone(text))
		var s, other crc.Stream
		s.Write(inner)
		other.Write(exact)
		if crc.Sum(inner) != crc.Sum(exact) || crc.More(1, inner) != crc.More(1, exact) || crc.Blind(inner) != crc.Blind(exact) || s.Sum() != other.Sum() || s.Len() != other.Len() {
			t.Errorf("of %X the room behind tells", text)
		}
	}
}

// P6.11: a Stream keeps nothing that was written: what becomes of it afterwards is not seen.
func TestBytesWrittenAreNotKept(t *testing.T) {
	r := source(78)
	var s crc.Stream
	var written []byte
	buffer := make([]byte, 64)
	for range 100 {
		piece := buffer[:r.Intn(65)]
		r.Read(piece)
		s.Write(piece)
		written = append(written, piece...)
		clear(buffer)
		checkStream(t, &s, written)
	}
}

// P6.11: no call keeps anything: it answers the same whatever was called ahead of it, and beside it.
func TestManyCallsAtOnce(t *testing.T) {
	all := texts()
	var group sync.WaitGroup
	for range 8 {
		group.Go(func() {
			for range 50 {
				for _, text := range all {
					var s crc.Stream
					s.Write(text)
					want := ^walk(^uint32(0), text)
					if crc.Sum(text) != want || s.Sum() != want || crc.Blind(text) != (walk(0, text) == 0) || crc.Join(want, 3, len(text)) != afterZeros(want, len(text))^3 {
						t.Errorf("%X beside others", text)
					}
				}
			}
		})
	}
	group.Wait()
}

// P6.11: whatever is handed in, a call ends and does not panic.
func TestEveryCallEnds(t *testing.T) {
	r := source(79)
	for range 2000 {
		b := someBytes(r, r.Intn(30))
		for _, call := range calls() {
			call(b)
		}
		n := int(r.Uint64())
		crc.Join(r.Uint32(), r.Uint32(), n)
	}
	for range 1000 {
		crc.Join(1<<32-1, 1<<32-1, math.MaxInt)
		crc.Join(1<<32-1, 1<<32-1, math.MinInt)
	}
}

package health_test

import (
	"bytes"
	"encoding/binary"
	"math"
	"slices"
	"testing"

	"cairn/api"
	"cairn/health"
)

// checkLoad holds Load against the chapter's words.
func checkLoad(t *testing.T, p []byte) {
	t.Helper()
	b, err := health.Load(p)
	if !wordsOfLoad(p) {
		fatalUnless(t, b == nil && err == api.ErrArg, "Load(%v) = %v, %v", p, b, err)
		return
	}
	fatalUnless(t, b != nil && err == api.OK, "Load(%v) = %v, %v", p, b, err)
	fatalUnless(t, bytes.Equal(b.Save(), p), "Save = %v, not %v", b.Save(), p)
}

// bits are numbers of 32 bits in their order, with one byte ahead of them.
func bits(n byte, l ...uint32) []byte {
	p := []byte{n}
	for _, x := range l {
		p = binary.LittleEndian.AppendUint32(p, x)
	}
	return p
}

// edges are the bits of numbers at the ends of what a keep and a score may be: zeros, the least and the greatest ones, one and its neighbours, infinities, what is no number, each with both signs.
func edges() []uint32 {
	var l []uint32
	for _, x := range []uint32{0, 1, 2, 1<<23 - 1, 1 << 23, 1<<23 + 1, 0x3F000000, 0x3F7FFFFF, 0x3F800000, 0x3F800001, 0x40000000, 0x7F7FFFFF, 0x7F800000, 0x7F800001, 0x7FC00000, 0x7FFFFFFF} {
		l = append(l, x, x|1<<31)
	}
	return l
}

// P27.5: each keep and each score of the edges, in each place of a board.
func TestLoadOfEdges(t *testing.T) {
	const half = 0x3F000000
	for _, x := range edges() {
		checkLoad(t, bits(1, x, half))
		checkLoad(t, bits(1, half, x))
		for _, y := range edges() {
			checkLoad(t, bits(1, x, y))
			checkLoad(t, bits(3, half, x, half, y))
			checkLoad(t, bits(3, half, half, x, y))
		}
	}
}

// P27.5: the bits of what the examples name: a board of one place, but for one thing.
func TestLoadOfOneThing(t *testing.T) {
	for _, x := range []struct {
		p  []byte
		is bool
	}{
		{[]byte{1, 0, 0, 0, 63, 0, 0, 128, 63}, true},
		{[]byte{1, 0, 0, 0, 63, 0, 0, 0, 0}, true},
		{[]byte{1, 1, 0, 0, 0, 1, 0, 0, 0}, true},
		{[]byte{1, 255, 255, 127, 63, 255, 255, 127, 63}, true},
		{[]byte{1, 0, 0, 0, 63, 0, 0, 0, 128}, false},
		{[]byte{1, 0, 0, 0, 0, 0, 0, 128, 63}, false},
		{[]byte{1, 0, 0, 0, 128, 0, 0, 128, 63}, false},
		{[]byte{1, 0, 0, 128, 63, 0, 0, 128, 63}, false},
		{[]byte{1, 0, 0, 0, 191, 0, 0, 128, 63}, false},
		{[]byte{1, 0, 0, 192, 127, 0, 0, 128, 63}, false},
		{[]byte{1, 0, 0, 0, 63, 1, 0, 128, 63}, false},
		{[]byte{1, 0, 0, 0, 63, 1, 0, 0, 128}, false},
		{[]byte{1, 0, 0, 0, 63, 0, 0, 128, 191}, false},
		{[]byte{1, 0, 0, 0, 63, 0, 0, 128, 127}, false},
		{[]byte{1, 0, 0, 0, 63, 0, 0, 192, 127}, false},
	} {
		b, err := health.Load(x.p)
		want := api.ErrArg
		if x.is {
			want = api.OK
		}
		fatalUnless(t, (b != nil) == x.is && err == want, "Load(%v) = %v, %v", x.p, b, err)
		checkLoad(t, x.p)
	}
}

// P27.5: each length and each number of places: only 5 + 4n bytes of n, 1 or above, are a board.
func TestLoadOfLengths(t *testing.T) {
	long := make([]byte, 5+4*255+9)
	for i := range long {
		long[i] = []byte{0, 0, 0, 63}[(i+3)%4] // each number is 1/2
	}
	for n := range 256 {
		for length := range len(long) + 1 {
			p := long[:length]
			if length > 0 {
				p[0] = byte(n)
			}
			// Only the lengths of boards and those beside them are worth the time of all numbers.
			if length%4 <= 2 || n < 3 || n > 253 {
				b, err := health.Load(p)
				is := n > 0 && length == 5+4*n
				fatalUnless(t, (b != nil) == is && (err == api.OK) == is && (is || err == api.ErrArg), "Load of %d bytes, the first one %d = %v, %v", length, n, b, err)
			}
		}
	}
	b, err := health.Load(nil)
	fatalUnless(t, b == nil && err == api.ErrArg, "Load of nothing = %v, %v", b, err)
	b, err = health.Load(make([]byte, 1<<22))
	fatalUnless(t, b == nil && err == api.ErrArg, "Load of many zeros = %v, %v", b, err)
}

// P27.5, P27.9: random bytes, most of them close to a board's.
func TestLoadOfRandomBytes(t *testing.T) {
	r := source(275)
	for range 20000 {
		n := 1 + r.Intn(6)
		w := &words{keep: pick(r, keeps()...)}
		for range n {
			w.scores = append(w.scores, pick(r, someScores()...))
		}
		p := w.save()
		checkLoad(t, p)
		p[r.Intn(len(p))] ^= 1 << r.Intn(8)
		checkLoad(t, p)
		r.Read(p[1:])
		checkLoad(t, p)
		checkLoad(t, p[:r.Intn(len(p)+1)])
	}
}

// P27.5: the bytes of a board that was played with, in their places.
func TestSave(t *testing.T) {
	b, _ := board(t, 2, 0.75)
	fatalUnless(t, slices.Equal(b.Save(), []byte{2, 0, 0, 64, 63, 0, 0, 128, 63, 0, 0, 128, 63}), "Save = %v", b.Save())
	b.Tell(1, false)
	fatalUnless(t, slices.Equal(b.Save(), []byte{2, 0, 0, 64, 63, 0, 0, 128, 63, 0, 0, 64, 63}), "Save = %v", b.Save())
	for range 500 {
		b.Tell(0, false)
	}
	fatalUnless(t, slices.Equal(b.Save(), []byte{2, 0, 0, 64, 63, 2, 0, 0, 0, 0, 0, 64, 63}), "Save = %v", b.Save())
	big, _ := board(t, 255, math.Ldexp(1, -149))
	p := big.Save()
	fatalUnless(t, len(p) == 5+4*255 && p[0] == 255 && slices.Equal(p[:9], []byte{255, 1, 0, 0, 0, 0, 0, 128, 63}), "Save of 255 places = %v", p)
}

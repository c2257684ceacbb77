package crc_test

import (
	"encoding/binary"
	"math"
	"math/big"
	"math/rand"
	"testing"

	"cairn/crc"
)

// cut cuts the text behind each of its bytes whose bit is set in cuts.
func cut(text []byte, cuts int) [][]byte {
	var pieces [][]byte
	from := 0
	for i := range text {
		if cuts>>i&1 == 1 {
			pieces = append(pieces, text[from:i+1])
			from = i + 1
		}
	}
	return append(pieces, text[from:])
}

// checkPieces holds what More and a Stream make of the pieces against the sum of all.
func checkPieces(t *testing.T, pieces [][]byte, want uint32) {
	t.Helper()
	var sum uint32
	var s crc.Stream
	for _, piece := range pieces {
		sum = crc.More(sum, piece)
		s.Write(piece)
	}
	if sum != want || s.Sum() != want {
		t.Fatalf("of %X More makes %X, a Stream %X, not %X", pieces, sum, s.Sum(), want)
	}
}

// groupings are the sums that Join makes of the pieces, in every grouping, and how many bytes they have.
func groupings(pieces [][]byte) ([]uint32, int) {
	if len(pieces) == 1 {
		return []uint32{crc.Sum(pieces[0])}, len(pieces[0])
	}
	var sums []uint32
	length := 0
	for i := 1; i < len(pieces); i++ {
		left, leftLength := groupings(pieces[:i])
		right, rightLength := groupings(pieces[i:])
		for _, a := range left {
			for _, b := range right {
				sums = append(sums, crc.Join(a, b, rightLength))
			}
		}
		length = leftLength + rightLength
	}
	return sums, length
}

// P6.6
func TestHoweverBytesAreCut(t *testing.T) {
	text := []byte("123456789")
	for cuts := range 1 << len(text) {
		checkPieces(t, cut(text, cuts), 0xE3069283)
	}
	for cuts := range 1 << 6 {
		pieces := append(cut(text[:6], cuts), nil, text[6:])
		sums, _ := groupings(pieces)
		for _, sum := range sums {
			if sum != 0xE3069283 {
				t.Fatalf("Join over %q makes %X", pieces, sum)
			}
		}
	}
}

// P6.6
func TestHoweverManyBytesAreCut(t *testing.T) {
	r := source(69)
	for range 40 {
		var pieces [][]byte
		var text []byte
		for range 1 + r.Intn(6) {
			piece := someBytes(r, r.Intn(4)*r.Intn(1000))
			pieces, text = append(pieces, piece), append(text, piece...)
		}
		want := crc.Sum(text)
		checkPieces(t, pieces, want)
		sums, length := groupings(pieces)
		for _, sum := range sums {
			if sum != want || length != len(text) {
				t.Fatalf("Join makes %X of %d bytes, not %X", sum, length, want)
			}
		}
	}
}

// blindPattern is one that ends in what the sum of its beginning is turned by: the register falls out as it goes over itself.
func blindPattern(r *rand.Rand) []byte {
	begun := someBytes(r, 1+r.Intn(60))
	return binary.LittleEndian.AppendUint32(begun, unlike(begun))
}

// P6.7
func TestSumsOfTwoTextsTogether(t *testing.T) {
	r := source(70)
	for i := range 1000 {
		pattern := someBytes(r, 1+r.Intn(60))
		if i%2 == 0 {
			pattern = blindPattern(r)
		}
		x, y := someBytes(r, len(pattern)), someBytes(r, len(pattern))
		together := crc.Sum(x) ^ crc.Sum(both(x, pattern))
		if other := crc.Sum(y) ^ crc.Sum(both(y, pattern)); other != together || together != unlike(pattern) {
			t.Fatalf("%X turns one sum by %X, another by %X", pattern, together, other)
		}
		if blind := crc.Blind(pattern); blind != (together == 0) || blind != (i%2 == 0) {
			t.Fatalf("%X turns sums by %X and is blind: %v", pattern, together, blind)
		}
	}
}

// seen fails unless the pattern is not blind and turns the sum of some bytes.
func seen(t *testing.T, pattern []byte) {
	t.Helper()
	if crc.Blind(pattern) {
		t.Fatalf("Blind(%X)", pattern[:min(len(pattern), 100)])
	}
	if unlike(pattern) == 0 {
		t.Fatalf("the sum does not see %X", pattern[:min(len(pattern), 100)])
	}
}

// burst is a pattern of n bytes whose ones are those of the word, from that bit on.
func burst(n, at int, word uint64) []byte {
	b := make([]byte, n)
	for i := range 64 {
		if word>>i&1 == 1 {
			b[(at+i)/8] |= 1 << ((at + i) % 8)
		}
	}
	return b
}

// P6.8: what each of 32 bits that follow one another turns is not made by the others: so no choice of them turns nothing.
func TestBitsWithin32AreIndependent(t *testing.T) {
	for _, n := range []int{5, 6, 17, 300} {
		for from := 0; from+32 <= 8*n; from++ {
			var rows [32]uint32 // by their highest bit
			for i := range 32 {
				x := unlike(ones(n, from+i))
				for high := 31; high >= 0 && x != 0; high-- {
					if x>>high == 0 {
						continue
					}
					if rows[high] == 0 {
						rows[high] = x
						break
					}
					x ^= rows[high]
				}
				if x == 0 {
					t.Fatalf("of %d bytes the bits %d to %d can turn nothing", n, from, from+i)
				}
			}
		}
	}
}

// P6.8
func TestBurstsWithin32BitsAreSeen(t *testing.T) {
	r := source(71)
	for at := range 48 {
		for word := uint64(1); word < 1<<12; word++ {
			seen(t, burst(12, at, word))
			seen(t, burst(12, at, word<<20|1))
		}
		for range 3000 {
			word := uint64(r.Uint32()) >> r.Intn(32)
			seen(t, burst(12, at, max(word, 1)))
		}
		seen(t, burst(12, at, 1<<32-1))
		seen(t, burst(12, at, 1<<31|1))
		seen(t, burst(12, at, 0xF176EC05))
		seen(t, burst(12, at, 0x05EC76F1))
	}
}

// P6.8: with 33 bits there is just one that is not seen, the polynomial itself.
func TestBurstOf33Bits(t *testing.T) {
	const itself = 0x105EC76F1
	r := source(72)
	for at := range 48 {
		if !crc.Blind(burst(12, at, itself)) {
			t.Errorf("the polynomial is seen at bit %d", at)
		}
		for i := range 33 {
			seen(t, burst(12, at, itself^1<<i))
		}
		for range 1000 {
			seen(t, burst(12, at, 1<<32|uint64(r.Uint32())|1))
		}
	}
}

// P6.9: whatever is blind has an even number of ones; one more, anywhere, is seen.
func TestAnOddNumberOfOnesIsSeen(t *testing.T) {
	r := source(73)
	for range 2000 {
		pattern := blindPattern(r)
		if !crc.Blind(pattern) || onesIn(pattern)%2 == 1 {
			t.Fatalf("%X is blind: %v, and has %d ones", pattern, crc.Blind(pattern), onesIn(pattern))
		}
		seen(t, both(pattern, ones(len(pattern), r.Intn(8*len(pattern)))))
	}
	for range 2000 {
		pattern := someBytes(r, 1+r.Intn(60))
		if onesIn(pattern)%2 == 0 {
			pattern[0] ^= 1
		}
		seen(t, pattern)
	}
}

// P6.9: one, two and three ones near one another, wholly.
func TestFewOnesNearAreSeen(t *testing.T) {
	const bits = 8 * 9
	for i := range bits {
		seen(t, ones(9, i))
		for j := range i {
			seen(t, ones(9, i, j))
			for k := range j {
				seen(t, ones(9, i, j, k))
			}
		}
	}
}

// P6.9: two and three ones far from one another.
func TestFewOnesFarAreSeen(t *testing.T) {
	r := source(74)
	for _, n := range []int{1 << 10, 1 << 16, 1 << 20, 1<<20 + 1} {
		last := 8*n - 1
		seen(t, ones(n, 0))
		seen(t, ones(n, last))
		seen(t, ones(n, 0, last))
		seen(t, ones(n, 0, 1, last))
		seen(t, ones(n, 0, last-1, last))
		for range 5 {
			a, b, c := r.Intn(last), r.Intn(last), r.Intn(last)
			seen(t, ones(n, a, last))
			seen(t, ones(n, a, b, c))
			seen(t, ones(n, 0, 1+a/2, last))
		}
	}
}

// P6.9: within 2^31 - 1 bits two ones are seen, within 2^31 they may not be.
func TestTwoOnesOfAPeriod(t *testing.T) {
	if testing.Short() {
		t.Skip("goes over 2^28 bytes")
	}
	pattern := make([]byte, 1<<28)
	pattern[0], pattern[1<<28-1] = 1, 0x40
	if crc.Blind(pattern) {
		t.Error("two ones within 2^31 - 1 bits are blind")
	}
	pattern[1<<28-1] = 0x80
	if !crc.Blind(pattern) {
		t.Error("two ones 2^31 - 1 bits apart are not blind")
	}
}

// P6.9: two ones d bits apart are blind just if x^d is one; x^8 is one to the power 2^31 - 1, a prime, and is not one itself: so no lesser d is one.
func TestThePeriodIsPrime(t *testing.T) {
	if !big.NewInt(period).ProbablyPrime(30) {
		t.Fatal("2^31 - 1")
	}
	for i := range 32 {
		one := uint32(1) << i
		if crc.Join(one, 0, period) != one || crc.Join(one, 0, 1) == one {
			t.Errorf("%X: %X behind a period, %X behind a byte", one, crc.Join(one, 0, period), crc.Join(one, 0, 1))
		}
	}
	for _, d := range lengths() {
		if same := crc.Join(1, 0, d) == 1; same != (d%period == 0) {
			t.Errorf("%d zero bytes leave the register as it is: %v", d, same)
		}
	}
}

// P6.10
func TestJoinOfZerosBehindZeros(t *testing.T) {
	r := source(75)
	for i, n := range lengths() {
		for _, m := range append(lengths()[:9], math.MaxInt-n, (math.MaxInt-n)/3, i) {
			if n > math.MaxInt-m {
				continue
			}
			a, b := r.Uint32(), r.Uint32()
			if got, want := crc.Join(crc.Join(a, 0, n), b, m), crc.Join(a, b, n+m); got != want {
				t.Fatalf("%d zeros and %d behind them make %X, all of them %X", n, m, got, want)
			}
		}
	}
}

// P6.10
func TestJoinHasAPeriod(t *testing.T) {
	r := source(76)
	for _, n := range append(lengths(), math.MaxInt-period) {
		if n > math.MaxInt-period {
			continue
		}
		for _, a := range append(someSums()[:9], r.Uint32()) {
			b := r.Uint32()
			if got, want := crc.Join(a, b, n+period), crc.Join(a, b, n); got != want {
				t.Fatalf("Join(%X, %X, %d and a period) = %X, not %X", a, b, n, got, want)
			}
		}
	}
	if got := crc.Join(77, 5, period); got != 77^5 {
		t.Errorf("Join(77, 5, 2^31 - 1) = %d", got)
	}
}

package crc_test

import (
	"hash/crc32"
	"math"
	"testing"

	"cairn/crc"
)

// noBytes are nil, empty, and empty with room behind.
func noBytes() [][]byte {
	return [][]byte{nil, {}, []byte("123")[:0]}
}

// P6.1
func TestSumOfTheExamples(t *testing.T) {
	zeros, full, rising := make([]byte, 32), make([]byte, 32), make([]byte, 32)
	for i := range 32 {
		full[i], rising[i] = 255, byte(i)
	}
	for _, x := range []struct {
		b    []byte
		want uint32
	}{{nil, 0}, {[]byte("123456789"), 0xE3069283}, {zeros, 0x8A9136AA}, {full, 0x62A8AB43}, {rising, 0x46DD794E}} {
		if got := crc.Sum(x.b); got != x.want {
			t.Errorf("Sum(%X) = %X, not %X", x.b, got, x.want)
		}
	}
}

// P6.1
func TestSumOfNoBytesIsZero(t *testing.T) {
	for _, none := range noBytes() {
		if got := crc.Sum(none); got != 0 {
			t.Errorf("Sum of no bytes = %X", got)
		}
	}
}

// checkSum holds the sum against that of the register's going bit by bit, and the one that the library knows.
func checkSum(t *testing.T, b []byte) {
	t.Helper()
	got := crc.Sum(b)
	if want := ^walk(^uint32(0), b); got != want {
		t.Fatalf("Sum of %d bytes = %X, not %X", len(b), got, want)
	}
	if want := crc32.Checksum(b, crc32.MakeTable(crc32.Castagnoli)); got != want {
		t.Fatalf("Sum of %d bytes = %X, the library says %X", len(b), got, want)
	}
}

// P6.1
func TestSumOfEveryOneAndTwoBytes(t *testing.T) {
	for x := range 256 {
		checkSum(t, []byte{byte(x)})
		for y := range 256 {
			checkSum(t, []byte{byte(x), byte(y)})
		}
	}
}

// P6.1
func TestSumOfEveryLength(t *testing.T) {
	r := source(61)
	for n := range 600 {
		checkSum(t, someBytes(r, n))
		checkSum(t, make([]byte, n))
	}
	checkSum(t, someBytes(r, 1<<20+3))
}

// P6.2
func TestMoreOfTheExamples(t *testing.T) {
	if got := crc.More(crc.Sum([]byte("1234")), []byte("56789")); got != 0xE3069283 {
		t.Errorf("More(Sum(1234), 56789) = %X", got)
	}
	if a, b := crc.More(0, nil), crc.More(5, nil); a != 0 || b != 5 {
		t.Errorf("More(0, none) = %X, More(5, none) = %X", a, b)
	}
}

// P6.2: the register begins with the sum's bits turned, whatever sum is handed in.
func TestMoreOfEverySum(t *testing.T) {
	r := source(62)
	for _, sum := range someSums() {
		for n := range 40 {
			b := someBytes(r, n)
			if got, want := crc.More(sum, b), ^walk(^sum, b); got != want {
				t.Fatalf("More(%X, %X) = %X, not %X", sum, b, got, want)
			}
		}
	}
}

// P6.2
func TestMoreOfNoBytesIsTheSum(t *testing.T) {
	for _, sum := range someSums() {
		for _, none := range noBytes() {
			if got := crc.More(sum, none); got != sum {
				t.Errorf("More(%X, none) = %X", sum, got)
			}
		}
	}
}

// P6.2: of the sum of some bytes it is the sum of these and b behind them.
func TestMoreIsTheSumOfBoth(t *testing.T) {
	r := source(63)
	for range 500 {
		a, b := someBytes(r, r.Intn(50)), someBytes(r, r.Intn(50))
		if got, want := crc.More(crc.Sum(a), b), crc.Sum(append(a, b...)); got != want {
			t.Fatalf("More = %X, not %X", got, want)
		}
	}
}

// P6.3
func TestJoinOfTheExamples(t *testing.T) {
	for _, x := range []struct {
		a, b uint32
		n    int
		want uint32
	}{{crc.Sum([]byte("1234")), crc.Sum([]byte("56789")), 5, 0xE3069283}, {7, 9, 0, 14}, {7, 9, -3, 14}, {0, 5, 1 << 62, 5}} {
		if got := crc.Join(x.a, x.b, x.n); got != x.want {
			t.Errorf("Join(%X, %X, %d) = %X, not %X", x.a, x.b, x.n, got, x.want)
		}
	}
}

// P6.3: the register begins with a's bits as they are, whatever a and b are.
func TestJoinGoesOverZeroBytes(t *testing.T) {
	for _, a := range someSums() {
		register := a
		for n := range 600 {
			b := register*3 + 1
			if got := crc.Join(a, b, n); got != register^b {
				t.Fatalf("Join(%X, %X, %d) = %X, not %X", a, b, n, got, register^b)
			}
			register = walk(register, []byte{0})
		}
	}
}

// lengths are the edges that Join can be handed, those around every power of two, and others; none is below 0.
func lengths() []int {
	l := []int{0, 1, period - 1, period, period + 1, 1 << 62, math.MaxInt, math.MaxInt - 1}
	for i := range 63 {
		l = append(l, 1<<i, 1<<i+1, 1<<i-1)
	}
	r := source(64)
	for range 50 {
		l = append(l, r.Int(), r.Intn(period), r.Intn(1<<20))
	}
	return l
}

// P6.3: so it is for every number of bytes, and it ends though nobody could walk so far.
func TestJoinOfEveryLength(t *testing.T) {
	for _, n := range lengths() {
		for _, a := range someSums() {
			if got, want := crc.Join(a, 0x12345678, n), afterZeros(a, n)^0x12345678; got != want {
				t.Fatalf("Join(%X, 12345678, %d) = %X, not %X", a, n, got, want)
			}
		}
	}
}

// P6.3
func TestJoinOfALengthBelowZero(t *testing.T) {
	for _, n := range []int{-1, -2, -3, -8, -period, math.MinInt32, -1 << 62, math.MinInt + 1, math.MinInt} {
		for _, a := range someSums() {
			if got := crc.Join(a, 0xABCDEF01, n); got != a^0xABCDEF01 {
				t.Errorf("Join(%X, ABCDEF01, %d) = %X", a, n, got)
			}
		}
	}
}

// P6.3, P6.10: the library goes over all those zero bytes, one by one, and comes to the same.
func TestJoinAgainstAWalkOfAPeriod(t *testing.T) {
	if testing.Short() {
		t.Skip("goes over 2^31 bytes")
	}
	table, piece := crc32.MakeTable(crc32.Castagnoli), make([]byte, 1<<20)
	const begun = 0xCAFE0123
	// The library turns the bits at the beginning and at the end: turned once more they go as they are.
	sum := uint32(0xFFFFFFFF ^ begun)
	for range 1<<11 - 1 {
		sum = crc32.Update(sum, table, piece)
	}
	sum = crc32.Update(sum, table, piece[:1<<20-2])
	for n := period - 1; n <= period+1; n++ {
		if got := crc.Join(begun, 0, n); got != ^sum {
			t.Errorf("Join(%X, 0, %d) = %X, not %X", begun, n, got, ^sum)
		}
		if n == period && ^sum != begun {
			t.Errorf("2^31 - 1 zero bytes make %X of %X", ^sum, begun)
		}
		sum = crc32.Update(sum, table, []byte{0})
	}
}

// P6.3: of the sums of x and of y, and y's length, it is the sum of x and y behind them.
func TestJoinIsTheSumOfBoth(t *testing.T) {
	r := source(65)
	for range 500 {
		x, y := someBytes(r, r.Intn(300)), someBytes(r, r.Intn(300))
		if got, want := crc.Join(crc.Sum(x), crc.Sum(y), len(y)), crc.Sum(append(x, y...)); got != want {
			t.Fatalf("Join of %d and %d bytes = %X, not %X", len(x), len(y), got, want)
		}
	}
}

// P6.4
func TestBlindOfTheExamples(t *testing.T) {
	for _, x := range []struct {
		pattern []byte
		want    bool
	}{{nil, true}, {[]byte{0, 0, 0}, true}, {[]byte{1}, false}, {[]byte{0, 0x80}, false}, {[]byte{0xF1, 0x76, 0xEC, 0x05, 0x01}, true}} {
		if got := crc.Blind(x.pattern); got != x.want {
			t.Errorf("Blind(%X) = %v", x.pattern, got)
		}
	}
}

// checkBlind holds Blind against long division, and against the register's going bit by bit.
func checkBlind(t *testing.T, pattern []byte, want bool) {
	t.Helper()
	if is := walk(0, pattern) == 0; is != want || is != divides(pattern) {
		t.Fatalf("the register over %X is zero: %v, that it is divided: %v, not %v", pattern, is, divides(pattern), want)
	}
	if got := crc.Blind(pattern); got != want {
		t.Fatalf("Blind(%X) = %v", pattern, got)
	}
}

// P6.4
func TestBlindOfZeros(t *testing.T) {
	for _, none := range noBytes() {
		checkBlind(t, none, true)
	}
	for n := range 200 {
		checkBlind(t, make([]byte, n), true)
	}
	if !crc.Blind(make([]byte, 1<<20)) {
		t.Error("many zeros are not blind")
	}
}

// P6.4
func TestBlindOfFewBytes(t *testing.T) {
	for x := range 1 << 16 {
		checkBlind(t, []byte{byte(x), byte(x >> 8)}, x == 0)
	}
}

// P6.4: the polynomial and its multiples are blind, at every bit; with one bit turned they are not.
func TestBlindOfMultiples(t *testing.T) {
	r := source(66)
	factors := [][]bool{{true}, {true, true}, {true, false, true}, {true, false, false, false, false, false, false, false, true}}
	for range 30 {
		factors = append(factors, append(someBits(r, r.Intn(100)), true))
	}
	for _, factor := range factors {
		for zeros := range 20 {
			pattern := multiple(factor, zeros)
			checkBlind(t, pattern, true)
			checkBlind(t, append(pattern, 0, 0, 0), true)
			turned := r.Intn(8 * len(pattern))
			checkBlind(t, both(pattern, ones(len(pattern), turned)), false)
		}
	}
}

// P6.4: a pattern that is blind leaves the sum of whatever bytes as it is, and one that is not turns it.
func TestBlindLeavesEverySum(t *testing.T) {
	r := source(67)
	for i := range 300 {
		pattern, blind := someBytes(r, 1+r.Intn(40)), false
		if i%2 == 0 {
			pattern, blind = multiple(append(someBits(r, r.Intn(200)), true), r.Intn(30)), true
		}
		checkBlind(t, pattern, blind)
		for range 5 {
			b := someBytes(r, len(pattern))
			if same := crc.Sum(b) == crc.Sum(both(b, pattern)); same != blind {
				t.Fatalf("%X: blind %v, but the sum is the same: %v", pattern, blind, same)
			}
		}
	}
}

package codec_test

import (
	"bytes"
	"encoding/binary"
	"math"
	"math/big"
	"slices"
	"testing"

	"cairn/codec"
)

// P7.1, P7.2, P7.3, P7.4
func TestPutsOfTheExamples(t *testing.T) {
	full := append(bytes.Repeat([]byte{255}, 9), 1)
	for _, x := range []struct {
		name      string
		got, want []byte
	}{
		{"Put(none, uint16 258)", codec.Put(nil, uint16(258)), []byte{2, 1}},
		{"Put(9, uint8 7)", codec.Put([]byte{9}, uint8(7)), []byte{9, 7}},
		{"PutUvarint 0", codec.PutUvarint(nil, 0), []byte{0}},
		{"PutUvarint 127", codec.PutUvarint(nil, 127), []byte{127}},
		{"PutUvarint 128", codec.PutUvarint(nil, 128), []byte{128, 1}},
		{"PutUvarint 300", codec.PutUvarint(nil, 300), []byte{172, 2}},
		{"PutUvarint 2^64 - 1", codec.PutUvarint(nil, math.MaxUint64), full},
		{"PutVarint -2", codec.PutVarint(nil, -2), []byte{3}},
		{"PutBytes 5 6", codec.PutBytes(nil, []byte{5, 6}), []byte{2, 5, 6}},
		{"PutTexts", codec.PutTexts(nil), []byte{0}},
		{"PutTexts a and an empty one", codec.PutTexts(nil, "a", ""), []byte{2, 1, 97, 0}},
	} {
		if !bytes.Equal(x.got, x.want) {
			t.Errorf("%s = %v, not %v", x.name, x.got, x.want)
		}
	}
}

// P7.3
func TestZigAndZagOfTheExamples(t *testing.T) {
	if a, b := codec.Zig(int8(-128)), codec.Zig(int64(3)); a != 255 || b != 6 {
		t.Errorf("Zig = %d, %d", a, b)
	}
	if v, is := codec.Zag[int8](255); v != -128 || !is {
		t.Errorf("Zag(int8, 255) = %d, %v", v, is)
	}
	if v, is := codec.Zag[int8](256); v != 0 || is {
		t.Errorf("Zag(int8, 256) = %d, %v", v, is)
	}
}

// begun are bytes behind which something is put.
func begun() [][]byte {
	return append(noBytes(), []byte{9}, []byte{128, 0}, bytes.Repeat([]byte{7}, 100))
}

// checkPut fails unless what was put is b and that behind it.
func checkPut(t *testing.T, name string, got, b, behind []byte) {
	t.Helper()
	if want := slices.Concat(b, behind); !bytes.Equal(got, want) {
		t.Fatalf("%s = %v, not %v", name, got, want)
	}
}

// lowestFirst is the number's bytes, by division.
func lowestFirst(v uint64, width int) []byte {
	b := make([]byte, width)
	for i := range b {
		b[i] = byte(v % 256)
		v /= 256
	}
	return b
}

// P7.1: every kind has its own width, and a caller's own kind that of the one it is over.
func TestPutOfEveryKind(t *testing.T) {
	for _, b := range begun() {
		for _, v := range edges() {
			checkPut(t, "Put uint8", codec.Put(b, uint8(v)), b, lowestFirst(v, 1))
			checkPut(t, "Put uint16", codec.Put(b, uint16(v)), b, lowestFirst(v, 2))
			checkPut(t, "Put uint32", codec.Put(b, uint32(v)), b, lowestFirst(v, 4))
			checkPut(t, "Put uint64", codec.Put(b, v), b, lowestFirst(v, 8))
			checkPut(t, "Put tiny", codec.Put(b, tiny(v)), b, lowestFirst(v, 1))
			checkPut(t, "Put small", codec.Put(b, small(v)), b, lowestFirst(v, 2))
			checkPut(t, "Put word", codec.Put(b, word(v)), b, lowestFirst(v, 4))
			checkPut(t, "Put wide", codec.Put(b, wide(v)), b, lowestFirst(v, 8))
			checkPut(t, "Put uint64, as the library", codec.Put(b, v), b, binary.LittleEndian.AppendUint64(nil, v))
		}
	}
}

// P7.1: the greatest number of each kind, and 0.
func TestPutOfTheGreatest(t *testing.T) {
	full, none := bytes.Repeat([]byte{255}, 8), make([]byte, 8)
	checkPut(t, "Put", codec.Put(nil, uint8(math.MaxUint8)), nil, full[:1])
	checkPut(t, "Put", codec.Put(nil, uint16(math.MaxUint16)), nil, full[:2])
	checkPut(t, "Put", codec.Put(nil, uint32(math.MaxUint32)), nil, full[:4])
	checkPut(t, "Put", codec.Put(nil, uint64(math.MaxUint64)), nil, full)
	checkPut(t, "Put", codec.Put(nil, uint8(0)), nil, none[:1])
	checkPut(t, "Put", codec.Put(nil, uint16(0)), nil, none[:2])
	checkPut(t, "Put", codec.Put(nil, uint32(0)), nil, none[:4])
	checkPut(t, "Put", codec.Put(nil, uint64(0)), nil, none)
}

// P7.2
func TestPutUvarintOfEveryLength(t *testing.T) {
	lengths := map[int]int{}
	for _, b := range begun() {
		for _, v := range edges() {
			got := codec.PutUvarint(b, v)
			checkPut(t, "PutUvarint", got, b, shortForm(natural(v)))
			checkPut(t, "PutUvarint, as the library", got, b, binary.AppendUvarint(nil, v))
			lengths[len(got)-len(b)]++
		}
	}
	for n := 1; n <= 10; n++ {
		if lengths[n] == 0 {
			t.Errorf("no short form has %d bytes", n)
		}
		delete(lengths, n)
	}
	if len(lengths) > 0 {
		t.Errorf("short forms of other lengths: %v", lengths)
	}
}

// P7.2: it grows by a byte just where seven bits more are needed.
func TestPutUvarintGrows(t *testing.T) {
	for n := 1; n <= 9; n++ {
		below, above := codec.PutUvarint(nil, 1<<(7*n)-1), codec.PutUvarint(nil, 1<<(7*n))
		if len(below) != n || len(above) != n+1 {
			t.Errorf("around 2^%d: %v, %v", 7*n, below, above)
		}
	}
	checkPut(t, "PutUvarint 2^63", codec.PutUvarint(nil, 1<<63), bytes.Repeat([]byte{128}, 9), []byte{1})
}

// P7.3
func TestPutVarint(t *testing.T) {
	for _, b := range begun() {
		for _, v := range signedEdges() {
			got := codec.PutVarint(b, v)
			checkPut(t, "PutVarint", got, b, shortForm(folded(v)))
			checkPut(t, "PutVarint, as the library", got, b, binary.AppendVarint(nil, v))
		}
	}
}

// checkFold holds Zig and Zag of a number that the kind has, and Zag of what is folded.
func checkFold[T codec.Signed](t *testing.T, v T) {
	t.Helper()
	want := folded(int64(v)).Uint64()
	if got := codec.Zig(v); got != want {
		t.Fatalf("Zig(%T %d) = %d, not %d", v, v, got, want)
	}
	if got, is := codec.Zag[T](want); got != v || !is {
		t.Fatalf("Zag(%T, %d) = %d, %v", v, want, got, is)
	}
}

// checkUnfold holds Zag of any number against the chapter's words: v is u/2, or -(u+1)/2, if the kind has that.
func checkUnfold[T codec.Signed](t *testing.T, u uint64, least, greatest int64) {
	t.Helper()
	v := new(big.Int).Div(natural(u), big.NewInt(2))
	if u%2 == 1 {
		v.Add(v, big.NewInt(1)).Neg(v)
	}
	has := v.Cmp(big.NewInt(least)) >= 0 && v.Cmp(big.NewInt(greatest)) <= 0
	got, is := codec.Zag[T](u)
	if is != has || !has && got != 0 || has && int64(got) != v.Int64() {
		t.Fatalf("Zag(%T, %d) = %d, %v, not %v, %v", got, u, got, is, v, has)
	}
}

// P7.3
func TestZigAndZagOfEverySmallKind(t *testing.T) {
	for v := math.MinInt16; v <= math.MaxInt16; v++ {
		checkFold(t, int8(v))
		checkFold(t, step(v))
		checkFold(t, int16(v))
		checkFold(t, move(v))
	}
	for u := range uint64(1 << 17) {
		checkUnfold[int8](t, u, math.MinInt8, math.MaxInt8)
		checkUnfold[step](t, u, math.MinInt8, math.MaxInt8)
		checkUnfold[int16](t, u, math.MinInt16, math.MaxInt16)
		checkUnfold[move](t, u, math.MinInt16, math.MaxInt16)
	}
}

// P7.3
func TestZigAndZagOfEveryKind(t *testing.T) {
	for _, v := range signedEdges() {
		checkFold(t, int8(v))
		checkFold(t, int32(v))
		checkFold(t, turn(v))
		checkFold(t, v)
		checkFold(t, leap(v))
	}
	for _, u := range edges() {
		checkUnfold[int8](t, u, math.MinInt8, math.MaxInt8)
		checkUnfold[move](t, u, math.MinInt16, math.MaxInt16)
		checkUnfold[int32](t, u, math.MinInt32, math.MaxInt32)
		checkUnfold[turn](t, u, math.MinInt32, math.MaxInt32)
		checkUnfold[int64](t, u, math.MinInt64, math.MaxInt64)
		checkUnfold[leap](t, u, math.MinInt64, math.MaxInt64)
	}
}

// P7.3: the least and the greatest number of each kind, and what is next behind them when it is folded.
func TestZigAndZagOfTheLeastAndTheGreatest(t *testing.T) {
	if codec.Zig(int16(math.MinInt16)) != 1<<16-1 || codec.Zig(int32(math.MinInt32)) != 1<<32-1 || codec.Zig(int64(math.MinInt64)) != math.MaxUint64 {
		t.Error("Zig of the least")
	}
	if codec.Zig(int8(math.MaxInt8)) != 254 || codec.Zig(int16(math.MaxInt16)) != 1<<16-2 || codec.Zig(int32(math.MaxInt32)) != 1<<32-2 || codec.Zig(int64(math.MaxInt64)) != math.MaxUint64-1 {
		t.Error("Zig of the greatest")
	}
	if v, is := codec.Zag[int16](1 << 16); v != 0 || is {
		t.Errorf("Zag(int16, 2^16) = %d, %v", v, is)
	}
	if v, is := codec.Zag[int32](1 << 32); v != 0 || is {
		t.Errorf("Zag(int32, 2^32) = %d, %v", v, is)
	}
	if v, is := codec.Zag[int64](math.MaxUint64); v != math.MinInt64 || !is {
		t.Errorf("Zag(int64, 2^64 - 1) = %d, %v", v, is)
	}
}

// P7.4
func TestPutBytes(t *testing.T) {
	r := source(73)
	blocks := append(begun(), someBytes(r, 126), someBytes(r, 127), someBytes(r, 128), someBytes(r, 16383), someBytes(r, 16384), someBytes(r, 1<<20))
	for _, b := range begun() {
		for _, p := range blocks {
			checkPut(t, "PutBytes", codec.PutBytes(b, p), b, slices.Concat(shortForm(natural(uint64(len(p)))), p))
		}
	}
}

// P7.4: behind its own bytes, too.
func TestPutBytesOfItself(t *testing.T) {
	b := []byte{1, 2, 3}
	checkPut(t, "PutBytes", codec.PutBytes(b, b), b, []byte{3, 1, 2, 3})
	checkPut(t, "PutBytes", codec.PutBytes(b[:1], b[1:]), b[:1], []byte{2, 2, 3})
}

// putTexts is how many there are and each as a block.
func putTexts(texts []string) []byte {
	b := shortForm(natural(uint64(len(texts))))
	for _, text := range texts {
		b = append(append(b, shortForm(natural(uint64(len(text))))...), text...)
	}
	return b
}

// P7.4
func TestPutTexts(t *testing.T) {
	r := source(74)
	lists := [][]string{nil, {}, {""}, {"", ""}, {"a"}, {"\x00\xff", "ü", "\xc3"}, make([]string, 127), make([]string, 128), make([]string, 70000), {string(someBytes(r, 127)), string(someBytes(r, 128)), string(someBytes(r, 1<<20))}}
	for range 100 {
		lists = append(lists, someTexts(r))
	}
	for _, b := range begun() {
		for _, texts := range lists {
			checkPut(t, "PutTexts", codec.PutTexts(b, texts...), b, putTexts(texts))
		}
		checkPut(t, "PutTexts", codec.PutTexts(b, "a", "", "bc"), b, []byte{3, 1, 97, 0, 2, 98, 99})
	}
}

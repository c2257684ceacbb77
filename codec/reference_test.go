package codec_test

import (
	"bytes"
	"math"
	"math/big"
	"math/rand"
	"slices"
	"testing"

	"cairn/api"
	"cairn/codec"
)

// Kinds of a caller's own.
type (
	tiny  uint8
	small uint16
	word  uint32
	wide  uint64
	step  int8
	move  int16
	turn  int32
	leap  int64
)

func source(seed int64) *rand.Rand { return rand.New(rand.NewSource(seed)) }

func someBytes(r *rand.Rand, n int) []byte {
	b := make([]byte, n)
	r.Read(b)
	return b
}

// someNumber is one with any number of bits.
func someNumber(r *rand.Rand) uint64 { return r.Uint64() >> r.Intn(64) }

// someTexts are none, some and empty ones.
func someTexts(r *rand.Rand) []string {
	var texts []string
	for range r.Intn(5) {
		texts = append(texts, string(someBytes(r, r.Intn(4)*r.Intn(60))))
	}
	return texts
}

// noBytes are nil, empty, and empty with room behind.
func noBytes() [][]byte {
	return [][]byte{nil, {}, []byte("123")[:0]}
}

// edges are the numbers at which a short form grows, and those around them, and others.
func edges() []uint64 {
	l := []uint64{0, 1, 2, 3, 126, 127, 128, 129, 255, 256, 300, 1<<63 - 1, 1 << 63, 1<<63 + 1, math.MaxUint64 - 1, math.MaxUint64}
	for i := range 64 {
		l = append(l, 1<<i-1, 1<<i, 1<<i+1)
	}
	r := source(71)
	for range 200 {
		l = append(l, someNumber(r))
	}
	return l
}

// signedEdges are the least and the greatest numbers with a sign of each kind, those around them, and others.
func signedEdges() []int64 {
	l := []int64{0, math.MinInt64, math.MaxInt64}
	for i := range 63 {
		for _, near := range []int64{-1, 0, 1} {
			l = append(l, 1<<i+near, -(1<<i)+near)
		}
	}
	r := source(72)
	for range 200 {
		l = append(l, int64(someNumber(r)), -int64(someNumber(r)))
	}
	return l
}

// counts are what a reading may be handed as n, most or each.
func counts() []int {
	return []int{0, 1, 2, 3, 4, 5, 127, 128, 300, math.MaxInt32, math.MaxInt - 1, math.MaxInt, -1, -2, -128, math.MinInt32, math.MinInt + 1, math.MinInt}
}

// shortForm is the one form of a number in the chapter's own words: groups of seven bits, 128 added to all but the last.
func shortForm(v *big.Int) []byte {
	var groups []byte
	rest := new(big.Int).Set(v)
	group := new(big.Int)
	for {
		rest.DivMod(rest, big.NewInt(128), group)
		groups = append(groups, byte(group.Int64()))
		if rest.Sign() == 0 {
			break
		}
	}
	for i := range len(groups) - 1 {
		groups[i] += 128
	}
	return groups
}

func natural(v uint64) *big.Int { return new(big.Int).SetUint64(v) }

// folded is 2v, if v is 0 or above, and -2v - 1, if it is below, reckoned without bounds.
func folded(v int64) *big.Int {
	twice := new(big.Int).Mul(big.NewInt(v), big.NewInt(2))
	if twice.Sign() < 0 {
		return twice.Neg(twice).Sub(twice, big.NewInt(1))
	}
	return twice
}

// model is a reader in the chapter's own words: it looks at each byte where it stands, and refuses by answering an error.
type model struct {
	bytes []byte
	place int
	fault api.Errno
}

// told is what a reading answers: a number, bytes or texts.
type told struct {
	number uint64
	bytes  []byte
	texts  []string
}

func (a told) same(b told) bool {
	return a.number == b.number && bytes.Equal(a.bytes, b.bytes) && slices.Equal(a.texts, b.texts)
}

// read does a reading that from a place on tells what it reads, and the place behind it, or is refused.
func (m *model) read(reading func(at int) (told, int, api.Errno)) told {
	if m.fault != api.OK {
		return told{}
	}
	answer, behind, err := reading(m.place)
	if err != api.OK {
		m.fault = err
		return told{}
	}
	m.place = behind
	return answer
}

func (m *model) fixed(at, width int) (told, int, api.Errno) {
	if at+width > len(m.bytes) {
		return told{}, 0, api.ErrCut
	}
	var v uint64
	for i := width - 1; i >= 0; i-- {
		v = v*256 + uint64(m.bytes[at+i])
	}
	return told{number: v}, at + width, api.OK
}

func (m *model) short(at int) (told, int, api.Errno) {
	v, weight := new(big.Int), big.NewInt(1)
	for i := 0; ; i++ {
		if at+i >= len(m.bytes) {
			return told{}, 0, api.ErrCut
		}
		x := m.bytes[at+i]
		if i == 9 && x > 1 {
			return told{}, 0, api.ErrOver
		}
		v.Add(v, new(big.Int).Mul(weight, big.NewInt(int64(x%128))))
		weight.Mul(weight, big.NewInt(128))
		if x < 128 && x == 0 && i > 0 {
			return told{}, 0, api.ErrOver
		}
		if x < 128 {
			return told{number: v.Uint64()}, at + i + 1, api.OK
		}
	}
}

func (m *model) folded(at int) (told, int, api.Errno) {
	answer, behind, err := m.short(at)
	if err == api.OK && answer.number%2 == 1 {
		answer.number = uint64(-int64(answer.number/2) - 1)
	} else if err == api.OK {
		answer.number /= 2
	}
	return answer, behind, err
}

func (m *model) some(at, n int) (told, int, api.Errno) {
	if n < 0 {
		return told{}, 0, api.ErrArg
	}
	if len(m.bytes)-at < n {
		return told{}, 0, api.ErrCut
	}
	return told{bytes: m.bytes[at : at+n]}, at + n, api.OK
}

func (m *model) block(at, most int) (told, int, api.Errno) {
	if most < 0 {
		return told{}, 0, api.ErrArg
	}
	n, behind, err := m.short(at)
	if err != api.OK {
		return told{}, 0, err
	}
	if natural(n.number).Cmp(big.NewInt(int64(most))) > 0 {
		return told{}, 0, api.ErrOver
	}
	return m.some(behind, int(n.number))
}

func (m *model) texts(at, most, each int) (told, int, api.Errno) {
	if most < 0 || each < 0 {
		return told{}, 0, api.ErrArg
	}
	n, behind, err := m.short(at)
	if err != api.OK {
		return told{}, 0, err
	}
	if natural(n.number).Cmp(big.NewInt(int64(most))) > 0 {
		return told{}, 0, api.ErrOver
	}
	var all told
	for i := uint64(0); i < n.number; i++ {
		one, next, err := m.block(behind, each)
		if err != api.OK {
			return told{}, 0, err
		}
		all.texts, behind = append(all.texts, string(one.bytes)), next
	}
	return all, behind, api.OK
}

// call is a reading: how a reader does it, and how the model does.
type call struct {
	name   string
	reader func(r *codec.Reader) told
	model  func(m *model, at int) (told, int, api.Errno)
}

// takings are the readings of numbers of every kind.
func takings() []call {
	fixed := func(width int) func(*model, int) (told, int, api.Errno) {
		return func(m *model, at int) (told, int, api.Errno) { return m.fixed(at, width) }
	}
	return []call{
		{"Take uint8", func(r *codec.Reader) told { return told{number: uint64(codec.Take[uint8](r))} }, fixed(1)},
		{"Take uint16", func(r *codec.Reader) told { return told{number: uint64(codec.Take[uint16](r))} }, fixed(2)},
		{"Take uint32", func(r *codec.Reader) told { return told{number: uint64(codec.Take[uint32](r))} }, fixed(4)},
		{"Take uint64", func(r *codec.Reader) told { return told{number: codec.Take[uint64](r)} }, fixed(8)},
		{"Take tiny", func(r *codec.Reader) told { return told{number: uint64(codec.Take[tiny](r))} }, fixed(1)},
		{"Take small", func(r *codec.Reader) told { return told{number: uint64(codec.Take[small](r))} }, fixed(2)},
		{"Take word", func(r *codec.Reader) told { return told{number: uint64(codec.Take[word](r))} }, fixed(4)},
		{"Take wide", func(r *codec.Reader) told { return told{number: uint64(codec.Take[wide](r))} }, fixed(8)},
		{"Uvarint", func(r *codec.Reader) told { return told{number: r.Uvarint()} }, (*model).short},
		{"Varint", func(r *codec.Reader) told { return told{number: uint64(r.Varint())} }, (*model).folded},
	}
}

// listings are the readings of bytes and texts with those numbers.
func listings(n, each int) []call {
	return []call{
		{"Bytes", func(r *codec.Reader) told { return told{bytes: r.Bytes(n)} }, func(m *model, at int) (told, int, api.Errno) { return m.some(at, n) }},
		{"Block", func(r *codec.Reader) told { return told{bytes: r.Block(n)} }, func(m *model, at int) (told, int, api.Errno) { return m.block(at, n) }},
		{"Texts", func(r *codec.Reader) told { return told{texts: r.Texts(n, each)} }, func(m *model, at int) (told, int, api.Errno) { return m.texts(at, n, each) }},
	}
}

// everyReading is one of each.
func everyReading() []call { return append(takings(), listings(1, 2)...) }

// check does the reading of a reader and of its model, and holds them against each other, and Left, Fault and End.
func (m *model) check(t *testing.T, r *codec.Reader, c call) {
	t.Helper()
	got, want := c.reader(r), m.read(func(at int) (told, int, api.Errno) { return c.model(m, at) })
	if !got.same(want) {
		t.Fatalf("%v from %d on, fault %d: %s answers %v, not %v", m.bytes, m.place, m.fault, c.name, got, want)
	}
	m.checkState(t, r, c.name)
}

// checkState holds Left, Fault and End against the model, twice, for they change nothing.
func (m *model) checkState(t *testing.T, r *codec.Reader, behind string) {
	t.Helper()
	left, end := len(m.bytes)-m.place, m.fault
	if end == api.OK && left > 0 {
		end = api.ErrTail
	}
	for range 2 {
		if r.Left() != left || r.Fault() != m.fault || r.End() != end {
			t.Fatalf("%v from %d on, behind %s: Left %d, Fault %d, End %d, not %d, %d, %d", m.bytes, m.place, behind, r.Left(), r.Fault(), r.End(), left, m.fault, end)
		}
	}
}

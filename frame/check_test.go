package frame_test

import (
	"math"
	"slices"
	"strings"
	"testing"

	"cairn/api"
	"cairn/frame"
)

// P8.1
func TestCheckOfTheExamples(t *testing.T) {
	for _, x := range []struct {
		name string
		h    api.Head
		want api.Errno
	}{
		{"the head", plainHead(), api.OK},
		{"Key none", with(func(h *api.Head) { h.Key = "" }), api.ErrKey},
		{"Index 3", with(func(h *api.Head) { h.Index = 3 }), api.ErrArg},
		{"Index -1", with(func(h *api.Head) { h.Index = -1 }), api.ErrArg},
		{"Gen 0, 5", with(func(h *api.Head) { h.Gen.Epoch = 0 }), api.ErrArg},
		{"Gen 3, 0", with(func(h *api.Head) { h.Gen.Count = 0 }), api.ErrArg},
		{"Key none and Size -1", with(func(h *api.Head) { h.Key, h.Size = "", -1 }), api.ErrKey},
	} {
		if got := frame.Check(x.h); got != x.want {
			t.Errorf("Check with %s = %d, not %d", x.name, got, x.want)
		}
	}
}

// flaw is something that a head may not have. Of two of them that of the lower rank is told.
type flaw struct {
	name string
	rank int
	want api.Errno
	make func(h *api.Head)
}

// flaws are those of each error in Check's order; each with the least and the greatest int, and next to what may be.
func flaws() []flaw {
	var l []flaw
	add := func(name string, rank int, want api.Errno, numbers []int, set func(h *api.Head, n int)) {
		for _, n := range numbers {
			l = append(l, flaw{name, rank, want, func(h *api.Head) { set(h, n) }})
		}
	}
	add("K", 1, api.ErrShape, []int{math.MinInt, -1, 0, 255, 256, math.MaxInt}, func(h *api.Head, n int) { h.Shape.K = n })
	add("M", 1, api.ErrShape, []int{math.MinInt, -1, 0, 3, 255, math.MaxInt}, func(h *api.Head, n int) { h.Shape.M = n })
	add("K and M", 1, api.ErrShape, []int{math.MinInt, -1, 0, 128, math.MaxInt/2 + 1, math.MaxInt}, func(h *api.Head, n int) { h.Shape.K, h.Shape.M = n, n })
	add("Block", 1, api.ErrShape, []int{math.MinInt, -1, 0, 65537, math.MaxInt}, func(h *api.Head, n int) { h.Shape.Block = n })
	add("Key", 2, api.ErrKey, []int{0, 256, 257, 65536}, func(h *api.Head, n int) { h.Key = strings.Repeat("k", n) })
	add("Size below 0", 3, api.ErrArg, []int{math.MinInt, -1 << 32, -1}, func(h *api.Head, n int) { h.Size = n })
	add("Size that does not fit", 3, api.ErrLarge, []int{8*4096 + 1, 1048576, 1048577, 1 << 32, math.MaxInt}, func(h *api.Head, n int) { h.Size = n })
	add("Index", 4, api.ErrArg, []int{math.MinInt, -1, 3, 255, 256, math.MaxInt}, func(h *api.Head, n int) { h.Index = n })
	add("Epoch", 4, api.ErrArg, []int{math.MinInt, -1, 0, 1 << 32, 1<<32 + 1, math.MaxInt}, func(h *api.Head, n int) { h.Gen.Epoch = n })
	add("Count", 4, api.ErrArg, []int{math.MinInt, -1, 0, 1 << 32, 1<<32 + 1, math.MaxInt}, func(h *api.Head, n int) { h.Gen.Count = n })
	return l
}

// checkRefused fails unless every call that takes a head refuses it so, with zero beside.
func checkRefused(t *testing.T, name string, h api.Head, want api.Errno) {
	t.Helper()
	if got := frame.Check(h); got != want {
		t.Errorf("Check with %s (%v) = %d, not %d", name, h, got, want)
	}
	if n, got := frame.Length(h); n != 0 || got != want {
		t.Errorf("Length with %s (%v) = %d, %d, not %d", name, h, n, got, want)
	}
	for _, blocks := range [][][]byte{nil, {{9, 8, 7, 6}, {5}}, {nil}} {
		if b, got := frame.Encode(api.Shard{Head: h, Blocks: blocks}); len(b) != 0 || got != want {
			t.Errorf("Encode with %s (%v) = %v, %d, not %d", name, h, b, got, want)
		}
	}
}

// P8.1, P8.2, P8.3: each error alone, and each pair together.
func TestTheFirstErrorIsTold(t *testing.T) {
	for _, a := range flaws() {
		checkRefused(t, a.name, with(a.make), a.want)
		for _, b := range flaws() {
			if a.rank < b.rank {
				checkRefused(t, a.name+" and "+b.name, with(func(h *api.Head) { a.make(h); b.make(h) }), a.want)
			}
		}
	}
}

// P8.1: a head without anything that may be.
func TestCheckOfAHeadOfZeros(t *testing.T) {
	checkRefused(t, "zeros alone", api.Head{}, api.ErrShape)
}

// P8.1: the greatest and the least that may be, and next to them what may not.
func TestCheckAtTheEdges(t *testing.T) {
	for _, x := range []struct {
		name   string
		change func(h *api.Head)
		want   api.Errno
	}{
		{"K 1 and M 1", func(h *api.Head) { h.Shape.K, h.Index = 1, 1 }, api.OK},
		{"Index 2 of 2", func(h *api.Head) { h.Shape.K = 1 }, api.ErrArg},
		{"M 2 of K 2", func(h *api.Head) { h.Shape.M, h.Index = 2, 3 }, api.OK},
		{"M 3 of K 2", func(h *api.Head) { h.Shape.M = 3 }, api.ErrShape},
		{"K 254 and M 1", func(h *api.Head) { h.Shape.K, h.Index = 254, 254 }, api.OK},
		{"K 254 and M 2", func(h *api.Head) { h.Shape.K, h.Shape.M = 254, 2 }, api.ErrShape},
		{"K 128 and M 127", func(h *api.Head) { h.Shape.K, h.Shape.M, h.Index = 128, 127, 254 }, api.OK},
		{"Index 255", func(h *api.Head) { h.Shape.K, h.Shape.M, h.Index = 128, 127, 255 }, api.ErrArg},
		{"K 128 and M 128", func(h *api.Head) { h.Shape.K, h.Shape.M = 128, 128 }, api.ErrShape},
		{"Block 1", func(h *api.Head) { h.Shape.Block = 1 }, api.OK},
		{"Block 65536", func(h *api.Head) { h.Shape.Block = 65536 }, api.OK},
		{"Block 65537", func(h *api.Head) { h.Shape.Block = 65537 }, api.ErrShape},
		{"a Key of 1 byte", func(h *api.Head) { h.Key = "\x00" }, api.OK},
		{"a Key of 255 bytes", func(h *api.Head) { h.Key = strings.Repeat("k", 255) }, api.OK},
		{"a Key of 256 bytes", func(h *api.Head) { h.Key = strings.Repeat("k", 256) }, api.ErrKey},
		{"a Key of 255 bytes in fewer letters", func(h *api.Head) { h.Key = strings.Repeat("ü", 127) + "u" }, api.OK},
		{"a Key of 256 bytes in fewer letters", func(h *api.Head) { h.Key = strings.Repeat("ü", 128) }, api.ErrKey},
		{"Size 0", func(h *api.Head) { h.Size = 0 }, api.OK},
		{"a Size that just fits", func(h *api.Head) { h.Size = 4096 * 8 }, api.OK},
		{"a Size that does not", func(h *api.Head) { h.Size = 4096*8 + 1 }, api.ErrLarge},
		{"MaxObject that just fits", func(h *api.Head) { h.Shape.Block, h.Size = 128, api.MaxObject }, api.OK},
		{"MaxObject that does not", func(h *api.Head) { h.Shape.Block, h.Size = 127, api.MaxObject }, api.ErrLarge},
		{"one more than MaxObject", func(h *api.Head) { h.Shape.Block, h.Size = 65536, api.MaxObject+1 }, api.ErrLarge},
		{"Index 0", func(h *api.Head) { h.Index = 0 }, api.OK},
		{"Gen 1, 1", func(h *api.Head) { h.Gen = api.Gen{Epoch: 1, Count: 1} }, api.OK},
		{"the greatest Gen", func(h *api.Head) { h.Gen = api.Gen{Epoch: api.MaxEpoch, Count: api.MaxCount} }, api.OK},
		{"an Epoch above MaxEpoch", func(h *api.Head) { h.Gen.Epoch = api.MaxEpoch + 1 }, api.ErrArg},
		{"a Count above MaxCount", func(h *api.Head) { h.Gen.Count = api.MaxCount + 1 }, api.ErrArg},
		{"another Store", func(h *api.Head) { h.Store = [8]byte{} }, api.OK},
	} {
		if got := frame.Check(with(x.change)); got != x.want {
			t.Errorf("Check with %s = %d, not %d", x.name, got, x.want)
		}
	}
}

// numbers are what any of the numbers may be handed in as.
func numbers() []int {
	return []int{math.MinInt, math.MinInt + 1, -1 << 32, -256, -255, -2, -1, 0, 1, 2, 3, 4, 127, 128, 129, 253, 254, 255, 256, 4096, 4097, 65535, 65536, 65537,
		1048575, 1048576, 1048577, 1<<32 - 1, 1 << 32, 1<<32 + 1, math.MaxInt/2 + 1, math.MaxInt - 1, math.MaxInt}
}

// P8.1, P8.2: every shape of numbers at the edges.
func TestCheckOfEveryShape(t *testing.T) {
	for _, k := range numbers() {
		for _, m := range numbers() {
			for _, block := range numbers() {
				h := with(func(h *api.Head) { h.Shape, h.Size, h.Index = api.Shape{K: k, M: m, Block: block}, 0, 0 })
				if got, want := frame.Check(h), headFault(h); got != want {
					t.Fatalf("Check of %v = %d, not %d", h.Shape, got, want)
				}
				if l, got := frame.Sizes(h.Shape, 0); len(l) != 0 || got != headFault(h) {
					t.Fatalf("Sizes(%v, 0) = %v, %d", h.Shape, l, got)
				}
			}
		}
	}
}

// P8.1, P8.2: heads with any numbers at all.
func TestCheckOfAnyHead(t *testing.T) {
	r := source(82)
	told := map[api.Errno]int{}
	for range 300000 {
		h := someShard(r).Head
		for range r.Intn(3) {
			*pick(r, &h.Shape.K, &h.Shape.M, &h.Shape.Block, &h.Size, &h.Index, &h.Gen.Epoch, &h.Gen.Count) = pick(r, numbers()...)
		}
		if r.Intn(8) == 0 {
			h.Key = strings.Repeat("k", pick(r, 0, 1, 255, 256))
		}
		want := headFault(h)
		if got := frame.Check(h); got != want {
			t.Fatalf("Check(%v) = %d, not %d", h, got, want)
		}
		length := 0
		if want == api.OK {
			length = formLength(h)
		}
		if got, err := frame.Length(h); got != length || err != want {
			t.Fatalf("Length(%v) = %d, %d, not %d, %d", h, got, err, length, want)
		}
		told[want]++
	}
	for _, err := range []api.Errno{api.OK, api.ErrShape, api.ErrKey, api.ErrArg, api.ErrLarge} {
		if told[err] < 1000 {
			t.Errorf("%d was told only %d times", err, told[err])
		}
	}
}

// formLength is the length of a form by its table.
func formLength(h api.Head) int {
	n := 40 + len(h.Key)
	for _, l := range lengthsOf(h.Shape, h.Size) {
		n += l + 4
	}
	return n
}

// P8.2
func TestSizesOfTheExamples(t *testing.T) {
	plain, one := api.Shape{K: 2, M: 1, Block: 4}, api.Shape{K: 1, M: 1, Block: 1}
	for _, x := range []struct {
		shape api.Shape
		size  int
		want  []int
		err   api.Errno
	}{
		{plain, 10, []int{4, 1}, api.OK},
		{plain, 8, []int{4}, api.OK},
		{plain, 0, nil, api.OK},
		{plain, -1, nil, api.ErrArg},
		{api.Shape{K: 2, M: 3, Block: 4}, 1, nil, api.ErrShape},
		{plain, 1048577, nil, api.ErrLarge},
		{one, 4096, slices.Repeat([]int{1}, 4096), api.OK},
		{one, 4097, nil, api.ErrLarge},
	} {
		if l, err := frame.Sizes(x.shape, x.size); !slices.Equal(l, x.want) || err != x.err {
			t.Errorf("Sizes(%v, %d) = %v, %d, not %v, %d", x.shape, x.size, l, err, x.want, x.err)
		}
	}
}

// P8.2
func TestLengthOfTheExample(t *testing.T) {
	if n, err := frame.Length(plainHead()); n != 54 || err != api.OK {
		t.Errorf("Length = %d, %d", n, err)
	}
}

// checkSizes holds Sizes and Length against the page's words.
func checkSizes(t *testing.T, s api.Shape, size int) {
	t.Helper()
	want := sizeFault(s, size)
	var lengths []int
	length := 0
	h := with(func(h *api.Head) { h.Shape, h.Size, h.Index = s, size, 0 })
	if want == api.OK {
		lengths, length = lengthsOf(s, size), formLength(h)
	}
	if l, err := frame.Sizes(s, size); !slices.Equal(l, lengths) || err != want {
		t.Fatalf("Sizes(%v, %d) = %v, %d, not %v, %d", s, size, l, err, lengths, want)
	}
	if n, err := frame.Length(h); n != length || err != want {
		t.Fatalf("Length of %v, Size %d = %d, %d, not %d, %d", s, size, n, err, length, want)
	}
}

// P8.2: around each bound of a row, of a stripe and of the limits, and beyond them.
func TestSizesOfEveryShape(t *testing.T) {
	for _, s := range shapes() {
		stripe := s.K * s.Block
		sizes := numbers()
		for _, stripes := range []int{0, 1, 2, 3, 4095, 4096, 4097} {
			for near := -2; near <= 2; near++ {
				sizes = append(sizes, stripes*stripe+near, stripes*stripe+s.K+near, stripes*stripe+stripe/2+near)
			}
		}
		for _, size := range sizes {
			checkSizes(t, s, size)
		}
	}
}

// P8.2: every size of small shapes.
func TestSizesOfEverySmallSize(t *testing.T) {
	for k := 1; k <= 5; k++ {
		for block := 1; block <= 5; block++ {
			for size := range 4 * k * block {
				checkSizes(t, api.Shape{K: k, M: 1, Block: block}, size)
			}
		}
	}
}

// P8.2: the order of what Sizes refuses.
func TestSizesTellsTheFirstError(t *testing.T) {
	none := api.Shape{K: 2, M: 3, Block: 4}
	for _, size := range numbers() {
		if l, err := frame.Sizes(none, size); len(l) != 0 || err != api.ErrShape {
			t.Errorf("Sizes(%v, %d) = %v, %d", none, size, l, err)
		}
		if l, err := frame.Sizes(api.Shape{}, size); len(l) != 0 || err != api.ErrShape {
			t.Errorf("Sizes of zeros and %d = %v, %d", size, l, err)
		}
	}
}

// The words of the page: the blocks of all K rows hold the object, and fewer than K bytes more a stripe.
func TestBlocksHoldTheObject(t *testing.T) {
	r := source(83)
	for range 2000 {
		h := someShard(r).Head
		l, err := frame.Sizes(h.Shape, h.Size)
		if err != api.OK {
			t.Fatal(err)
		}
		room := 0
		for j, n := range l {
			room += n * h.Shape.K
			if n < 1 || n > h.Shape.Block || j < len(l)-1 && n != h.Shape.Block {
				t.Fatalf("Sizes(%v, %d) = %v", h.Shape, h.Size, l)
			}
		}
		if room < h.Size || room >= h.Size+h.Shape.K {
			t.Fatalf("Sizes(%v, %d) = %v: room for %d", h.Shape, h.Size, l, room)
		}
	}
}

package stripe_test

import (
	"bytes"
	"math"
	"testing"

	"cairn/api"
	"cairn/stripe"
)

func checkWhere(t *testing.T, shape api.Shape, size, off, n int) {
	t.Helper()
	from, to, skip, err := stripe.Where(shape, size, off, n)
	wantFrom, wantTo, wantSkip, wantErr := modelWhere(shape, size, off, n)
	if from != wantFrom || to != wantTo || skip != wantSkip || err != wantErr {
		t.Fatalf("Where(%v, %d, %d, %d) = %d, %d, %d, %d, not %d, %d, %d, %d", shape, size, off, n, from, to, skip, err, wantFrom, wantTo, wantSkip, wantErr)
	}
}

// P10.4
func TestWhereOfTheExamples(t *testing.T) {
	good, bad := api.Shape{K: 2, M: 1, Block: 4}, api.Shape{K: 2, M: 3, Block: 4}
	for _, x := range []struct {
		shape          api.Shape
		off, n         int
		from, to, skip int
		want           api.Errno
	}{
		{good, 7, 2, 0, 2, 7, api.OK},
		{good, 8, 5, 1, 2, 0, api.OK},
		{good, 10, 1, 0, 0, 0, api.OK},
		{good, 3, 0, 0, 0, 0, api.OK},
		{good, -1, 2, 0, 0, 0, api.ErrArg},
		{bad, -1, 2, 0, 0, 0, api.ErrShape},
	} {
		from, to, skip, err := stripe.Where(x.shape, 10, x.off, x.n)
		if from != x.from || to != x.to || skip != x.skip || err != x.want {
			t.Errorf("Where(%v, 10, %d, %d) = %d, %d, %d, %d", x.shape, x.off, x.n, from, to, skip, err)
		}
	}
}

// P10.4: every range of small objects.
func TestWhereOfSmallObjects(t *testing.T) {
	for _, s := range smallShapes() {
		if s.M > 1 {
			continue
		}
		for size := range 2*s.K*s.Block + 3 {
			for off := -1; off <= size+1; off++ {
				for n := -1; n <= size+1; n++ {
					checkWhere(t, s, size, off, n)
				}
			}
		}
	}
}

// P10.4: the errors from the left, and numbers at their ends.
func TestWhereAtTheEnds(t *testing.T) {
	shape := api.Shape{K: 3, M: 2, Block: 5}
	for _, size := range []int{math.MinInt, -1, 0, 1, 14, 15, 16, 45, 100, 15 * 4096, 15*4096 + 1, 1 << 20, 1<<20 + 1, math.MaxInt} {
		for _, off := range append(numbers(), size-1, size, size+1) {
			for _, n := range append(numbers(), size-off) {
				checkWhere(t, shape, size, off, n)
				if _, _, _, err := stripe.Where(api.Shape{K: 3, M: 4, Block: 5}, size, off, n); err != api.ErrShape {
					t.Fatalf("Where of no shape, %d, %d, %d = %d", size, off, n, err)
				}
			}
		}
	}
	great := api.Shape{K: 254, M: 1, Block: 65536}
	for _, off := range []int{0, 1<<20 - 1, 1 << 20} {
		checkWhere(t, great, 1<<20, off, math.MaxInt)
	}
	for _, x := range []struct {
		size, off, n int
		want         api.Errno
	}{{-1, -1, -1, api.ErrArg}, {1 << 21, -1, -1, api.ErrLarge}, {10, 0, -1, api.ErrArg}, {10, 99, -1, api.ErrArg}, {0, -1, 0, api.ErrArg}, {0, 0, math.MinInt, api.ErrArg}} {
		if from, to, skip, err := stripe.Where(shape, x.size, x.off, x.n); from|to|skip != 0 || err != x.want {
			t.Errorf("Where(.., %d, %d, %d) = %d, %d, %d, %d", x.size, x.off, x.n, from, to, skip, err)
		}
	}
}

// P10.5
func TestPieceOfTheExamples(t *testing.T) {
	ten := without(mustSplit(t, plainHead(), []byte{0, 1, 2, 3, 4, 5, 6, 7, 8, 9}), 1)
	for _, x := range []struct {
		off, n int
		want   []byte
	}{{3, 4, []byte{3, 4, 5, 6}}, {9, 7, []byte{9}}, {10, 1, nil}} {
		if b, err := stripe.Piece(ten, x.off, x.n); !bytes.Equal(b, x.want) || err != api.OK {
			t.Errorf("Piece(.., %d, %d) = %v, %d", x.off, x.n, b, err)
		}
	}
}

// P10.5: every piece of small objects.
func TestPieceOfSmallObjects(t *testing.T) {
	r := source(107)
	for _, s := range smallShapes() {
		if s.K > 3 {
			continue
		}
		for size := range 2*s.K*s.Block + 3 {
			data := someBytes(r, size)
			l := without(mustSplit(t, withShape(s.K, s.M, s.Block), data), r.Intn(s.K+s.M))
			for off := range size + 2 {
				n := r.Intn(size + 2)
				for _, n := range []int{0, 1, n, size - off, size, math.MaxInt} {
					b, err := stripe.Piece(l, off, n)
					if want := fromOn(data, off, n); n >= 0 && (!bytes.Equal(b, want) || err != api.OK) {
						t.Fatalf("Piece of %v, %d bytes (.., %d, %d) = %v, %d, not %v", s, size, off, n, b, err, want)
					}
				}
			}
		}
	}
}

// P10.5: ErrArg behind the errors of Join, and numbers at their ends.
func TestPieceAtTheEnds(t *testing.T) {
	l := mustSplit(t, plainHead(), []byte("hello"))
	none := mustSplit(t, plainHead(), nil)
	for _, off := range numbers() {
		for _, n := range numbers() {
			for _, shards := range [][]api.Shard{l, none, without(l, 0, 1), l[:2], nil} {
				b, err := stripe.Piece(shards, off, n)
				want, wantErr := modelPiece(shards, off, n)
				if !bytes.Equal(b, want) || err != wantErr {
					t.Fatalf("Piece(%d shards, %d, %d) = %v, %d, not %v, %d", len(shards), off, n, b, err, want, wantErr)
				}
			}
		}
	}
}

// P10.4, P10.5: what Where tells is where Piece's bytes are: in the blocks of these stripes, behind skip bytes.
func TestWhereAndPieceAgree(t *testing.T) {
	r := source(108)
	for range 3000 {
		s := pick(r, smallShapes()...)
		data := someBytes(r, r.Intn(4*s.K*s.Block+1))
		l := mustSplit(t, withShape(s.K, s.M, s.Block), data)
		off, n := r.Intn(len(data)+2), r.Intn(len(data)+2)
		from, to, skip, err := stripe.Where(s, len(data), off, n)
		if err != api.OK {
			t.Fatal(err)
		}
		var joined []byte
		for j := from; j < to; j++ {
			for i := range s.K {
				joined = append(joined, l[i].Blocks[j]...)
			}
		}
		joined = joined[:min(len(joined), len(data)-from*s.K*s.Block)]
		piece, err := stripe.Piece(l, off, n)
		if want := fromOn(joined[skip:], 0, n); !bytes.Equal(piece, want) || err != api.OK {
			t.Fatalf("Piece(.., %d, %d) = %v, %d, not %v", off, n, piece, err, want)
		}
	}
}

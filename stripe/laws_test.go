package stripe_test

import (
	"bytes"
	"slices"
	"testing"

	"cairn/api"
	"cairn/frame"
	"cairn/stripe"
)

// subsets hands on every choice of places below n.
func subsets(n int, do func(places []int)) {
	for mask := range 1 << n {
		var places []int
		for i := range n {
			if mask>>i&1 == 1 {
				places = append(places, i)
			}
		}
		do(places)
	}
}

// P10.6: whichever M or fewer are missing.
func TestAnyKGiveTheObject(t *testing.T) {
	r := source(110)
	for _, s := range smallShapes() {
		for _, size := range []int{0, 1, s.K * s.Block, s.K*s.Block + 1, r.Intn(4*s.K*s.Block + 1)} {
			data := someBytes(r, size)
			l := mustSplit(t, withShape(s.K, s.M, s.Block), data)
			subsets(s.K+s.M, func(gone []int) {
				left := without(l, gone...)
				b, err := stripe.Join(left)
				if len(gone) > s.M {
					if err != api.ErrFew || len(b) != 0 {
						t.Fatalf("of %v, %d bytes, with %v missing: Join = %v, %d", s, size, gone, b, err)
					}
					return
				}
				if err != api.OK || !bytes.Equal(b, data) {
					t.Fatalf("of %v, %d bytes, with %v missing: Join = %v, %d, not %v", s, size, gone, b, err, data)
				}
				off, n := r.Intn(size+1), r.Intn(size+1)
				piece, err := stripe.Piece(left, off, n)
				if want := fromOn(data, off, n); err != api.OK || !bytes.Equal(piece, want) {
					t.Fatalf("of %v, %d bytes, with %v missing: Piece(.., %d, %d) = %v, %d, not %v", s, size, gone, off, n, piece, err, want)
				}
			})
		}
	}
}

// P10.6: by way of the bytes of files, as layer 8 writes and reads them.
func TestShardsComeBackFromTheirFiles(t *testing.T) {
	r := source(111)
	for range 500 {
		s := pick(r, smallShapes()...)
		data := someBytes(r, r.Intn(4*s.K*s.Block+1))
		back := make([]api.Shard, s.K+s.M)
		for i, shard := range mustSplit(t, withShape(s.K, s.M, s.Block), data) {
			form, err := frame.Encode(shard)
			if err != api.OK {
				t.Fatal(err)
			}
			if i >= s.M {
				back[i], _ = frame.Parse(form)
			}
		}
		if b, err := stripe.Join(back); err != api.OK || !bytes.Equal(b, data) {
			t.Fatalf("of %v: Join = %v, %d, not %v", s, b, err, data)
		}
	}
}

// P10.7
func TestTheCostOfAShard(t *testing.T) {
	check := func(s api.Shape, size int) {
		t.Helper()
		for i, shard := range mustSplit(t, withShape(s.K, s.M, s.Block), make([]byte, size)) {
			if n := len(bytes.Join(shard.Blocks, nil)); n != ceil(size, s.K) {
				t.Fatalf("of %v, %d bytes: the shard %d has %d", s, size, i, n)
			}
		}
	}
	for _, s := range smallShapes() {
		for size := range 4*s.K*s.Block + 1 {
			check(s, size)
		}
	}
	for _, x := range edgeObjects() {
		check(x.shape, x.size)
	}
}

// unlike are, for each place, the numbers of the blocks that differ.
func unlike(a, b []api.Shard) [][]int {
	l := make([][]int, len(a))
	for i := range a {
		for j := range a[i].Blocks {
			if !bytes.Equal(a[i].Blocks[j], b[i].Blocks[j]) {
				l[i] = append(l[i], j)
			}
		}
	}
	return l
}

// P10.8: objects that are unlike in one stripe.
func TestAStripeStandsAlone(t *testing.T) {
	r := source(112)
	for range 2000 {
		s := pick(r, smallShapes()...)
		width := s.K * s.Block
		data := someBytes(r, 1+r.Intn(4*width))
		j := r.Intn(ceil(len(data), width))
		other := slices.Clone(data)
		r.Read(other[j*width : min(len(data), (j+1)*width)])
		for i, blocks := range unlike(mustSplit(t, withShape(s.K, s.M, s.Block), data), mustSplit(t, withShape(s.K, s.M, s.Block), other)) {
			for _, at := range blocks {
				if at != j {
					t.Fatalf("of %v: the stripe %d differs, and the block %d of the place %d", s, j, at, i)
				}
			}
		}
	}
}

// P10.8: objects that are unlike in one byte.
func TestOneByteTurnsMAndOneShards(t *testing.T) {
	r := source(113)
	for _, s := range smallShapes() {
		h, width := withShape(s.K, s.M, s.Block), s.K*s.Block
		data := someBytes(r, 2*width+1+r.Intn(width))
		before := mustSplit(t, h, data)
		for at := range data {
			other := slices.Clone(data)
			other[at] ^= byte(1 + r.Intn(255))
			after := mustSplit(t, h, other)
			j := at / width
			length := ceil(min(width, len(data)-j*width), s.K)
			row := at % width / length
			for i := range after {
				turned := 0
				for x, b := range after[i].Blocks[j] {
					if b != before[i].Blocks[j][x] {
						turned++
					}
				}
				want := 0
				if i == row || i >= s.K {
					want = 1
				}
				after[i].Blocks[j] = before[i].Blocks[j]
				if turned != want || !sameShard(after[i], before[i]) {
					t.Fatalf("of %v, the byte %d: %d bytes of the shard %d are turned, or others", s, at, turned, i)
				}
			}
		}
	}
}

// P10.9: K - 1 shards and any blocks at any further place are some object's.
func TestFewerThanKSayNothing(t *testing.T) {
	r := source(114)
	for _, s := range smallShapes() {
		h := withShape(s.K, s.M, s.Block)
		for _, size := range []int{s.K, s.K * s.Block, s.K * (s.Block + 1), s.K * (1 + r.Intn(3*s.Block))} {
			l := mustSplit(t, h, someBytes(r, size))
			subsets(s.K+s.M, func(places []int) {
				if len(places) != s.K {
					return
				}
				asked := make([]api.Shard, s.K+s.M)
				for _, i := range places {
					asked[i] = copied(l[i : i+1])[0]
				}
				for _, b := range asked[pick(r, places...)].Blocks {
					r.Read(b)
				}
				data, err := stripe.Join(asked)
				if err != api.OK || len(data) != size {
					t.Fatalf("Join = %d bytes, %d", len(data), err)
				}
				found := mustSplit(t, h, data)
				for _, i := range places {
					if !sameShard(found[i], asked[i]) {
						t.Fatalf("of %v, %d bytes: no object has %v at the place %d", s, size, asked[i].Blocks, i)
					}
				}
			})
		}
	}
}

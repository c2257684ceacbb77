package stripe_test

import (
	"bytes"
	"math/rand"
	"slices"
	"strings"
	"testing"

	"cairn/api"
	"cairn/stripe"
)

// checkReads holds Join, and Piece of some piece, against the model, and is Join's error.
func checkReads(t *testing.T, what string, shards []api.Shard) api.Errno {
	t.Helper()
	b, err := stripe.Join(shards)
	want, wantErr := modelJoin(shards)
	if err != wantErr || !bytes.Equal(b, want) {
		t.Fatalf("%s: Join = %d bytes, %d, not %d, %d", what, len(b), err, len(want), wantErr)
	}
	for _, x := range [][2]int{{0, len(want)}, {len(want) / 3, len(want)/2 + 1}, {len(want), 1}, {-1, 1}, {0, -1}, {1 << 40, -1}} {
		b, err := stripe.Piece(shards, x[0], x[1])
		want, wantErr := modelPiece(shards, x[0], x[1])
		if err != wantErr || !bytes.Equal(b, want) {
			t.Fatalf("%s: Piece(.., %d, %d) = %d bytes, %d, not %d, %d", what, x[0], x[1], len(b), err, len(want), wantErr)
		}
	}
	return err
}

// wantJoin holds an answer of Join against bytes.
func wantJoin(t *testing.T, what string, shards []api.Shard, want string) {
	t.Helper()
	if b, err := stripe.Join(shards); string(b) != want || err != api.OK {
		t.Errorf("%s: Join = %v, %d", what, b, err)
	}
	checkReads(t, what, shards)
}

// wantFault holds answers of Join and of Piece, at offsets that may be and that may not, against an error, beside which there is nothing.
func wantFault(t *testing.T, what string, shards []api.Shard, want api.Errno) {
	t.Helper()
	if b, err := stripe.Join(shards); len(b) != 0 || err != want {
		t.Errorf("%s: Join = %v, %d, not %d", what, b, err, want)
	}
	for _, x := range [][2]int{{0, 1}, {-1, 1}, {0, -1}, {100, 100}} {
		if b, err := stripe.Piece(shards, x[0], x[1]); len(b) != 0 || err != want {
			t.Errorf("%s: Piece(.., %d, %d) = %v, %d, not %d", what, x[0], x[1], b, err, want)
		}
	}
	checkReads(t, what, shards)
}

func hello(t *testing.T) []api.Shard {
	t.Helper()
	return mustSplit(t, plainHead(), []byte("hello"))
}

// P10.3
func TestJoinOfTheExamples(t *testing.T) {
	l := hello(t)
	wantJoin(t, "all", l, "hello")
	wantJoin(t, "place 0 missing", without(l, 0), "hello")
	spoilt := copied(l)
	spoilt[2].Blocks[0] = []byte{9, 9, 9}
	wantJoin(t, "place 2 spoilt", spoilt, "hello")
	wantFault(t, "places 0 and 1 missing", without(l, 0, 1), api.ErrFew)
	wantFault(t, "three missing ones", without(l, 0, 1, 2), api.ErrFew)
	wantFault(t, "none", nil, api.ErrFew)
	wantFault(t, "none, an empty list", []api.Shard{}, api.ErrFew)
	wantFault(t, "the first two", l[:2], api.ErrRows)
	later := copied(l)
	later[1].Gen.Count++
	wantFault(t, "another Gen", later, api.ErrMixed)
	wantFault(t, "exchanged", []api.Shard{l[1], l[0], l[2]}, api.ErrMixed)
	short := copied(l)
	short[1].Blocks[0] = short[1].Blocks[0][:2]
	wantFault(t, "a short block", short, api.ErrLengths)
}

// P10.3: a shard is missing by its Shape alone.
func TestMissingIsByTheShapeAlone(t *testing.T) {
	l := hello(t)
	for i := range l {
		gone := copied(l)
		gone[i].Shape = api.Shape{} // the rest of it stands
		wantJoin(t, "without a Shape", gone, "hello")
		gone[i].Blocks = [][]byte{{1}, nil, {2, 3, 4, 5, 6}}
		gone[i].Key, gone[i].Size, gone[i].Index = "other", -7, 1<<40
		wantJoin(t, "without a Shape, with much else", gone, "hello")
	}
	junk := api.Shard{Head: api.Head{Key: "a", Size: 5, Gen: api.Gen{Epoch: 3, Count: 5}}, Blocks: [][]byte{{1, 2, 3}}}
	wantFault(t, "missing ones with much else", []api.Shard{junk, junk, junk}, api.ErrFew)
	wantFault(t, "two missing ones with much else", []api.Shard{junk, l[1], junk}, api.ErrFew)

	for _, shape := range []api.Shape{{K: 2}, {M: 1}, {Block: 4}, {K: -1}, {M: -1}, {Block: -1}} {
		half := copied(l)
		half[0].Shape = shape // no shape, but not missing: it is the model
		wantFault(t, "half a Shape in front", half, api.ErrShape)
		half = copied(l)
		half[1].Shape = shape
		wantFault(t, "half a Shape behind", half, api.ErrMixed)
		wantFault(t, "half a Shape behind a missing one", without(half, 0), api.ErrShape)
	}
}

// P10.3: the model is the first one that is not missing, and its head is checked ahead of everything.
func TestTheModelIsChecked(t *testing.T) {
	for _, x := range []struct {
		name   string
		change func(h *api.Head)
		want   api.Errno
	}{
		{"K", func(h *api.Head) { h.Shape.K = 0 }, api.ErrShape},
		{"M", func(h *api.Head) { h.Shape.M = 3 }, api.ErrShape},
		{"Block", func(h *api.Head) { h.Shape.Block = 65537 }, api.ErrShape},
		{"no Key", func(h *api.Head) { h.Key = "" }, api.ErrKey},
		{"a long Key", func(h *api.Head) { h.Key = strings.Repeat("k", 256) }, api.ErrKey},
		{"Size below 0", func(h *api.Head) { h.Size = -1 }, api.ErrArg},
		{"Size that does not fit", func(h *api.Head) { h.Size = 8*4096 + 1 }, api.ErrLarge},
		{"Index", func(h *api.Head) { h.Index = 3 }, api.ErrArg},
		{"Epoch", func(h *api.Head) { h.Gen.Epoch = 0 }, api.ErrArg},
		{"Count", func(h *api.Head) { h.Gen.Count = 1 << 32 }, api.ErrArg},
		{"two things", func(h *api.Head) { h.Key, h.Shape.M = "", 0 }, api.ErrShape},
	} {
		for first := range 3 {
			l := hello(t)
			for i := range l {
				if i < first {
					l[i] = api.Shard{}
				}
			}
			x.change(&l[first].Head)
			wantFault(t, x.name+" of the model alone", l, x.want)
			wantFault(t, x.name+" of the model, in a list too long", append(copied(l), api.Shard{}), x.want)
			wantFault(t, x.name+" of the model, in a list too short", l[:first+1], x.want)
			for i := first; i < 3; i++ {
				x.change(&l[i].Head)
				l[i].Blocks = nil
			}
			wantFault(t, x.name+" of all", l, x.want)
		}
	}
}

// P10.3: as many as the model's Shape has places, missing ones too.
func TestAnotherNumberOfShards(t *testing.T) {
	l := hello(t)
	wantFault(t, "one more", append(copied(l), l[0]), api.ErrRows)
	wantFault(t, "a missing one more", append(copied(l), api.Shard{}), api.ErrRows)
	wantFault(t, "a missing one in front", append([]api.Shard{{}}, l...), api.ErrRows)
	wantFault(t, "the first alone", l[:1], api.ErrRows)
	wantFault(t, "a missing one and one", without(l[:2], 0), api.ErrRows)
	wide := copied(l)
	wide[0].Shape = api.Shape{K: 3, M: 1, Block: 4}
	wantFault(t, "a model with four places", wide, api.ErrRows) // ahead of ErrMixed
	spoilt := copied(l)
	spoilt[0].Blocks = nil
	wantFault(t, "a model without blocks, and one too few", spoilt[:2], api.ErrRows) // ahead of ErrLengths
}

// P10.3: each part of a head counts but the Index, and that is the place.
func TestHeadsThatAreUnlike(t *testing.T) {
	changes := []func(h *api.Head){
		func(h *api.Head) { h.Store[0]++ },
		func(h *api.Head) { h.Store[7]++ },
		func(h *api.Head) { h.Shape.K++ },
		func(h *api.Head) { h.Shape.M++ },
		func(h *api.Head) { h.Shape.Block++ },
		func(h *api.Head) { h.Key = "b" },
		func(h *api.Head) { h.Key = "" },
		func(h *api.Head) { h.Key = "aa" },
		func(h *api.Head) { h.Size++ }, // of the same lengths
		func(h *api.Head) { h.Size = 0 },
		func(h *api.Head) { h.Gen.Epoch++ },
		func(h *api.Head) { h.Gen.Count-- },
		func(h *api.Head) { h.Index++ },
		func(h *api.Head) { h.Index-- },
		func(h *api.Head) { h.Index = 0 },
	}
	for _, change := range changes {
		for _, i := range []int{1, 2} { // the place 2 is none of the K least, and is looked at nevertheless
			l := hello(t)
			change(&l[i].Head)
			wantFault(t, "an unlike head", l, api.ErrMixed)
			l[i].Blocks = nil
			wantFault(t, "an unlike head without blocks", l, api.ErrMixed)
		}
	}
	l := hello(t)
	wantFault(t, "one in two places", []api.Shard{l[0], l[0], l[2]}, api.ErrMixed)
	wantFault(t, "the model at another place", []api.Shard{{}, l[0], l[2]}, api.ErrMixed)
	wantFault(t, "turned round", []api.Shard{l[2], l[1], l[0]}, api.ErrMixed)
}

// P10.3
func TestBlocksOfOtherLengths(t *testing.T) {
	ten := mustSplit(t, plainHead(), []byte("0123456789"))
	for i := range ten {
		for _, blocks := range [][][]byte{
			nil, {}, {{1, 2, 3, 4}}, {{1, 2, 3, 4}, {5}, {}}, {{1, 2, 3, 4}, {5}, {6}}, {{1, 2, 3, 4}, {}}, {{1, 2, 3, 4}, nil}, {{1, 2, 3, 4}, {5, 6}},
			{{1, 2, 3}, {5}}, {{1, 2, 3, 4, 5}, {6}}, {{5}, {1, 2, 3, 4}}, {{}, {}}, {{1, 2, 3, 4, 5}},
		} {
			l := copied(ten)
			l[i].Blocks = blocks
			wantFault(t, "other lengths", l, api.ErrLengths)
		}
	}
	none := mustSplit(t, plainHead(), nil)
	none[2].Blocks = [][]byte{nil}
	wantFault(t, "a block of an empty object", none, api.ErrLengths)
}

// P10.3: the shards are gone through from place 0 on; of each all is asked ahead of the next.
func TestTheFirstFaultIsTold(t *testing.T) {
	l := hello(t)
	l[0].Blocks, l[1].Key = nil, "b"
	wantFault(t, "lengths ahead of a head", l, api.ErrLengths)
	l = hello(t)
	l[1].Key, l[2].Blocks = "b", nil
	wantFault(t, "a head ahead of lengths", l, api.ErrMixed)
	l = hello(t)
	l[1].Blocks, l[2].Index = nil, 1
	wantFault(t, "lengths ahead of an Index", l, api.ErrLengths)
	l = without(hello(t), 0, 1)
	l[2].Blocks = nil
	wantFault(t, "lengths ahead of too few", l, api.ErrLengths)
	l = without(hello(t), 0, 1)
	l[2].Index = 1
	wantFault(t, "an Index ahead of too few", l, api.ErrMixed)
}

// P10.3: an empty object is one without blocks; too few shards of it are too few.
func TestJoinOfNothing(t *testing.T) {
	for _, s := range smallShapes() {
		l := mustSplit(t, withShape(s.K, s.M, s.Block), nil)
		for i := range s.M + 1 {
			wantJoin(t, "an empty object", l, "")
			l[len(l)-1-i] = api.Shard{}
		}
		if checkReads(t, "an empty object", l) != api.ErrFew {
			t.Errorf("of %v K - 1 shards of an empty object are enough", s)
		}
	}
}

// P10.3: the K least places say the object, right or wrong; what fills the last stripe up is not looked at.
func TestTheKLeastPlacesSayTheObject(t *testing.T) {
	r := source(104)
	for range 3000 {
		s := pick(r, smallShapes()...)
		l := mustSplit(t, withShape(s.K, s.M, s.Block), someBytes(r, r.Intn(3*s.K*s.Block+1)))
		for i := range l { // any bytes: no word at all
			for _, b := range l[i].Blocks {
				r.Read(b)
			}
		}
		for _, i := range r.Perm(len(l))[:r.Intn(s.M+1)] {
			l[i] = api.Shard{}
		}
		if err := checkReads(t, "any bytes", l); err != api.OK {
			t.Fatalf("Join = %d", err)
		}
	}
	l := hello(t)
	l[1].Blocks[0][2] = 77
	wantJoin(t, "another filling", l, "hello")
}

// damage is something that may befall a list of shards.
func damage(r *rand.Rand, l []api.Shard) []api.Shard {
	if len(l) == 0 {
		return l
	}
	i, j := r.Intn(len(l)), r.Intn(len(l))
	s := &l[i]
	switch r.Intn(16) {
	case 0, 1, 2:
		*s = api.Shard{}
	case 3:
		s.Shape = api.Shape{}
	case 4:
		s.Gen.Count++
	case 5:
		s.Key += "b"
	case 6:
		l[i], l[j] = l[j], l[i]
	case 7:
		s.Blocks = append(s.Blocks, nil)
	case 8:
		s.Blocks = s.Blocks[:len(s.Blocks)/2]
	case 9:
		if len(s.Blocks) > 0 {
			s.Blocks[r.Intn(len(s.Blocks))] = someBytes(r, r.Intn(6))
		}
	case 10:
		l = slices.Delete(l, i, i+1)
	case 11:
		l = slices.Insert(l, i, pick(r, api.Shard{}, *s))
	case 12:
		s.Size = pick(r, s.Size-1, s.Size+1, 0, -1, 1<<21)
	case 13:
		s.Index = pick(r, s.Index-1, s.Index+1, i, -1, 255)
	case 14:
		s.Shape = pick(r, api.Shape{K: s.Shape.K}, api.Shape{K: s.Shape.K + 1, M: s.Shape.M, Block: s.Shape.Block}, api.Shape{K: s.Shape.M, M: s.Shape.K, Block: s.Shape.Block})
	case 15:
		for i := range l {
			l[i].Gen.Epoch++
		}
	}
	return l
}

// P10.3, P10.5
func TestReadsOfDamagedLists(t *testing.T) {
	r := source(105)
	seen := make(map[api.Errno]int)
	for range 30000 {
		s := pick(r, smallShapes()...)
		l := mustSplit(t, withShape(s.K, s.M, s.Block), someBytes(r, r.Intn(3*s.K*s.Block+1)))
		for range r.Intn(5) {
			l = damage(r, l)
		}
		seen[checkReads(t, "damaged", l)]++
	}
	for _, err := range []api.Errno{api.OK, api.ErrFew, api.ErrRows, api.ErrMixed, api.ErrLengths, api.ErrShape, api.ErrArg, api.ErrLarge} {
		if seen[err] < 30 {
			t.Errorf("%d was answered %d times", err, seen[err])
		}
	}
}

// P10.3: shapes at their limits.
func TestJoinOfTheEdges(t *testing.T) {
	r := source(106)
	for _, x := range edgeObjects() {
		data := someBytes(r, x.size)
		l := mustSplit(t, withShape(x.shape.K, x.shape.M, x.shape.Block), data)
		for _, gone := range [][]int{nil, upTo(x.shape.M), r.Perm(len(l))[:x.shape.M]} {
			if b, err := stripe.Join(without(l, gone...)); err != api.OK || !bytes.Equal(b, data) {
				t.Fatalf("of %v, %d bytes, with %v missing: Join = %d bytes, %d", x.shape, x.size, gone, len(b), err)
			}
		}
		wantErr := api.ErrFew
		if b, err := stripe.Join(without(l, r.Perm(len(l))[:x.shape.M+1]...)); err != wantErr || len(b) != 0 {
			t.Fatalf("of %v with M + 1 missing: Join = %d bytes, %d", x.shape, len(b), err)
		}
	}
}

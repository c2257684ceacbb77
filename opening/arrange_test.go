package opening_test

import (
	"fmt"
	"math"
	"math/rand"
	"slices"
	"testing"

	"cairn/api"
	"cairn/opening"
)

// The chapter's examples of Arrange, row by row.
func TestExamplesOfArrange(t *testing.T) {
	o, no := blank(), silent()
	a0, a1, a2, a1b := at('A', 0, 5), at('A', 1, 5), at('A', 2, 5), at('A', 1, 6)
	b0, b1 := at('B', 0, 5), at('B', 1, 5)
	for _, x := range []struct {
		marks  []api.Mark
		epoch  int
		places []int
		err    api.Errno
	}{
		{[]api.Mark{a0, a1, a2}, 5, []int{0, 1, 2}, api.OK},
		{[]api.Mark{a2, no, a0, o}, 5, []int{2, 3, 0}, api.OK},
		{[]api.Mark{a0, o, a1, o}, 5, []int{0, 2, 1}, api.OK},
		{[]api.Mark{a1, a0, a1b}, 6, []int{1, 2, -1}, api.OK},
		{[]api.Mark{a0, no}, 0, nil, api.ErrQuorum},
		{[]api.Mark{o, o, o}, 0, nil, api.ErrQuorum},
		{nil, 0, nil, api.ErrQuorum},
		{[]api.Mark{a0, a0, o}, 0, nil, api.ErrQuorum},
		{[]api.Mark{a0, a1, b0, b1}, 0, nil, api.ErrDrives},
		{[]api.Mark{a0, a1, a1b, b0, b1}, 6, []int{0, 2, -1}, api.OK},
		{[]api.Mark{a0, b0, a1}, 5, []int{0, 2, -1}, api.OK},
	} {
		want := api.Layout{}
		if x.err == api.OK {
			want = api.Layout{Store: [8]byte{'A'}, Shape: small(), Epoch: x.epoch, Places: x.places}
		}
		l, err := opening.Arrange(x.marks)
		fatalUnless(t, sameLayout(l, want) && err == x.err, "Arrange(%v) = %v, %d, not %v, %d", x.marks, l, err, want, x.err)
		checkArrange(t, x.marks)
	}
}

// everyList hands each list of up to so many of the marks to a test.
func everyList(most int, of []api.Mark, test func(marks []api.Mark)) {
	var grow func(l []api.Mark)
	grow = func(l []api.Mark) {
		test(l)
		if len(l) == most {
			return
		}
		for _, m := range of {
			grow(append(l, m))
		}
	}
	grow(make([]api.Mark, 0, most))
}

// P18.1: every list of up to five of eleven marks: two stores, a third one that is told by its shape alone, blank and silent ones.
func TestEveryShortListOfMarks(t *testing.T) {
	met := map[api.Errno]int{}
	block := func(l *api.Label) { l.Shape.Block = 5 }
	everyList(5, []api.Mark{
		blank(), silent(), at('A', 0, 5), at('A', 0, 6), at('A', 1, 5), at('A', 1, 6), at('A', 2, 5), at('B', 0, 5), at('B', 1, 6),
		with(at('A', 0, 5), block), with(at('A', 1, 5), block),
	}, func(marks []api.Mark) { met[checkArrange(t, marks)]++ })
	for _, err := range []api.Errno{api.OK, api.ErrQuorum, api.ErrDrives} {
		fatalUnless(t, met[err] > 1000, "%d only %d times", err, met[err])
	}
}

// P18.1: every list of up to seven of six marks, of the least shape there is: one label is a store that is met.
func TestEveryListOfMirrors(t *testing.T) {
	mirror := func(l *api.Label) { l.Shape = api.Shape{K: 1, M: 1, Block: 1} }
	met := map[api.Errno]int{}
	everyList(7, []api.Mark{
		blank(), with(at('A', 0, 0), mirror), with(at('A', 1, 0), mirror), with(at('A', 1, 1), mirror), with(at('B', 0, 1), mirror), silent(),
	}, func(marks []api.Mark) { met[checkArrange(t, marks)]++ })
	for _, err := range []api.Errno{api.OK, api.ErrQuorum, api.ErrDrives} {
		fatalUnless(t, met[err] > 10, "%d only %d times", err, met[err])
	}
}

// someShape is any that may be, often a small one.
func someShape(r *rand.Rand) api.Shape {
	k := pick(r, 1, 2, 3, 1+r.Intn(8), 127, 128, 254, 1+r.Intn(254))
	most := min(k, 255-k)
	return api.Shape{K: k, M: pick(r, 1, most, 1+r.Intn(most)), Block: pick(r, 1, 4, 65536, 1+r.Intn(65536))}
}

// someMarks are so many marks of a few stores that are near one another, some of them nearly met.
func someMarks(r *rand.Rand, n int, shape api.Shape) []api.Mark {
	epochs := []int{0, 1, api.MaxEpoch - 1, api.MaxEpoch, r.Intn(1 << 32)}[r.Intn(3):]
	stores := r.Intn(4)
	var marks []api.Mark
	next := 0
	for range n {
		switch kind := r.Intn(12); {
		case kind == 0:
			marks = append(marks, blank())
		case kind == 1:
			marks = append(marks, silent())
		default:
			l := api.Label{Shape: shape, Index: next % (shape.K + shape.M), Epoch: pick(r, epochs...)}
			l.Store[r.Intn(8)] = byte(r.Intn(1 + stores))
			if r.Intn(8) > 0 {
				l.Store = [8]byte{7: byte(r.Intn(1 + stores))}
			}
			if r.Intn(8) == 0 {
				l.Index = r.Intn(shape.K + shape.M)
			}
			next++
			marks = append(marks, api.Mark{Kind: 1, Label: l})
		}
	}
	if r.Intn(2) == 0 {
		r.Shuffle(n, func(i, j int) { marks[i], marks[j] = marks[j], marks[i] })
	}
	return marks
}

// P18.1: lists of any length and of any shape.
func TestListsOfAnyShape(t *testing.T) {
	r := source(181)
	met := map[api.Errno]int{}
	for range 20000 {
		shape := someShape(r)
		n := shape.K + shape.M
		met[checkArrange(t, someMarks(r, pick(r, min(255, n+1), min(255, 2*n), max(0, n-r.Intn(n)), r.Intn(280)), shape))]++
	}
	for _, err := range []api.Errno{api.OK, api.ErrQuorum, api.ErrDrives, api.ErrArg} {
		fatalUnless(t, met[err] > 50, "%d only %d times, of %v", err, met[err], met)
	}
}

// P18.1: the K-th unlike place makes a store met, and no further label of a place that is named already.
func TestMetByUnlikePlaces(t *testing.T) {
	for k := 1; k <= 254; k++ {
		for _, m := range []int{1, min(k, 255-k)} {
			name := func(i, epoch int) api.Mark {
				return with(at('A', i, epoch), func(l *api.Label) { l.Shape = api.Shape{K: k, M: m, Block: 9} })
			}
			var marks []api.Mark
			for i := range k - 1 {
				marks = append(marks, name(m+i, 3))
			}
			wantNumber(t, "Arrange one short", checkArrange(t, marks), api.ErrQuorum)
			if k > 1 {
				wantNumber(t, "Arrange with a second one", checkArrange(t, append(marks, name(m, 4))), api.ErrQuorum)
			}
			wantNumber(t, "Arrange with a blank one", checkArrange(t, append(marks, blank())), api.ErrQuorum)
			wantNumber(t, "Arrange with one more", checkArrange(t, append(marks, name(0, 2))), api.OK)
			wantNumber(t, "Arrange with the last place", checkArrange(t, append(marks, name(k+m-1, 2))), api.OK)
		}
	}
}

// Words: labels of which any byte of the Store, or any number of the Shape is unlike are of unlike stores.
func TestUnlikeStores(t *testing.T) {
	big := func(m api.Mark) api.Mark {
		return with(m, func(l *api.Label) { l.Shape = api.Shape{K: 3, M: 2, Block: 4} })
	}
	changes := []func(l *api.Label){
		func(l *api.Label) { l.Shape.K++ },
		func(l *api.Label) { l.Shape.M++ },
		func(l *api.Label) { l.Shape.M-- },
		func(l *api.Label) { l.Shape.Block++ },
		func(l *api.Label) { l.Shape.Block += 256 },
	}
	for i := range 8 {
		changes = append(changes, func(l *api.Label) { l.Store[i] ^= 128 })
	}
	for i, change := range changes {
		a0, a1, a2 := big(at('A', 0, 5)), big(at('A', 1, 5)), big(at('A', 2, 5))
		fatalUnless(t, checkArrange(t, []api.Mark{a0, a1, a2}) == api.OK, "three labels are no store")
		wantNumber(t, fmt.Sprint("Arrange, the last unlike: ", i), checkArrange(t, []api.Mark{a0, a1, with(a2, change)}), api.ErrQuorum)
		wantNumber(t, fmt.Sprint("Arrange, the first unlike: ", i), checkArrange(t, []api.Mark{with(a0, change), a1, a2}), api.ErrQuorum)
		other := func(l *api.Label) { change(l); l.Index++ }
		marks := []api.Mark{a0, a1, a2, with(a0, other), with(a1, other), with(a2, other)}
		want := api.ErrDrives
		if wordsOfMet(marks) == 1 {
			want = api.OK
		}
		wantNumber(t, fmt.Sprint("Arrange of two stores: ", i), checkArrange(t, marks), want)
	}
}

// wordsOfMet is how many stores are met.
func wordsOfMet(marks []api.Mark) int {
	met := 0
	for i, m := range marks {
		places := map[int]bool{}
		first := true
		for j, other := range marks {
			if nameOf(m.Label) == nameOf(other.Label) {
				first = first && j >= i
				places[other.Label.Index] = true
			}
		}
		if first && len(places) >= m.Label.Shape.K {
			met++
		}
	}
	return met
}

// P18.1: the greatest epoch counts over all labels of a store, a second copy's and any place's; a store that is not met has none to say.
func TestWhichStoreIsTaken(t *testing.T) {
	a, b := func(i, epoch int) api.Mark { return at('A', i, epoch) }, func(i, epoch int) api.Mark { return at('B', i, epoch) }
	for i, x := range []struct {
		marks []api.Mark
		store byte
		err   api.Errno
	}{
		{[]api.Mark{a(0, 1), a(1, 9), b(0, 8), b(1, 8), b(2, 8)}, 'A', api.OK},
		{[]api.Mark{a(0, 1), a(1, 8), b(0, 8), b(1, 9), b(2, 8)}, 'B', api.OK},
		{[]api.Mark{a(0, 1), a(1, 1), a(1, 9), b(0, 8), b(1, 8)}, 'A', api.OK},
		{[]api.Mark{a(1, 9), a(0, 1), a(1, 1), b(0, 8), b(1, 8)}, 'A', api.OK},
		{[]api.Mark{a(0, 9), b(0, 8), b(1, 8)}, 'B', api.OK},
		{[]api.Mark{a(0, 9), a(0, 9), b(0, 0), b(1, 0)}, 'B', api.OK},
		{[]api.Mark{a(0, 9), b(0, 9), at('C', 0, 8), b(1, 9), at('C', 1, 9)}, 0, api.ErrDrives},
		{[]api.Mark{a(0, 9), a(1, 9), b(0, 9), b(1, 9), at('C', 0, 8), at('C', 1, 10)}, 'C', api.OK},
		{[]api.Mark{at('C', 0, 8), at('C', 1, 10), a(0, 9), a(1, 9), b(0, 9), b(1, 9)}, 'C', api.OK},
		{[]api.Mark{a(0, 9), a(1, 9), at('C', 0, 8), at('C', 1, 10), b(0, 9), b(1, 10)}, 0, api.ErrDrives},
		{[]api.Mark{a(0, 9), a(1, 9), b(0, 9), b(1, 9), at('C', 0, 9), at('C', 1, 9)}, 0, api.ErrDrives},
		{[]api.Mark{a(0, 0), a(1, 0), b(0, 0), b(1, 0)}, 0, api.ErrDrives},
		{[]api.Mark{a(0, 0), a(1, 0)}, 'A', api.OK},
		{[]api.Mark{a(0, api.MaxEpoch), a(1, 0), b(0, api.MaxEpoch-1), b(1, 0)}, 'A', api.OK},
	} {
		l, err := opening.Arrange(x.marks)
		fatalUnless(t, l.Store[0] == x.store && err == x.err, "row %d: Arrange = %v, %d", i, l, err)
		checkArrange(t, x.marks)
	}
}

// P18.1: of several labels for a place the greatest Epoch's, of several such ones the first's mark stands there, in every order.
func TestSecondCopies(t *testing.T) {
	copies := []api.Mark{at('A', 0, 3), at('A', 1, 1), at('A', 1, 2), at('A', 1, 2), at('A', 1, 0), blank()}
	for _, order := range orders(len(copies)) {
		var marks []api.Mark
		for _, i := range order {
			marks = append(marks, copies[i])
		}
		l, err := opening.Arrange(marks)
		first := min(slices.Index(order, 2), slices.Index(order, 3))
		want := []int{slices.Index(order, 0), first, slices.Index(order, 5)}
		fatalUnless(t, err == api.OK && slices.Equal(l.Places, want) && l.Epoch == 3, "Arrange(%v) = %v, %d, not %v", marks, l, err, want)
	}
}

// P18.1: blank marks take the places that are left, in their order, as far as there are such; those that are left over stand nowhere.
func TestBlankOnes(t *testing.T) {
	wide := func(place int) api.Mark {
		return with(at('A', place, 1), func(l *api.Label) { l.Shape = api.Shape{K: 3, M: 3, Block: 4} })
	}
	for _, x := range []struct {
		marks  []api.Mark
		places []int
	}{
		{[]api.Mark{wide(0), wide(1), wide(2), blank(), blank()}, []int{0, 1, 2, 3, 4, -1}},
		{[]api.Mark{blank(), blank(), wide(0), wide(1), wide(2)}, []int{2, 3, 4, 0, 1, -1}},
		{[]api.Mark{blank(), wide(5), blank(), wide(3), blank(), wide(1)}, []int{0, 5, 2, 3, 4, 1}},
		{[]api.Mark{blank(), wide(5), silent(), wide(3), blank(), wide(1)}, []int{0, 5, 4, 3, -1, 1}},
		{[]api.Mark{wide(4), wide(3), wide(5), blank()}, []int{3, -1, -1, 1, 0, 2}},
		{[]api.Mark{wide(4), wide(3), wide(5)}, []int{-1, -1, -1, 1, 0, 2}},
		{[]api.Mark{wide(0), wide(1), wide(2), wide(4), wide(5), blank(), blank(), blank()}, []int{0, 1, 2, 5, 3, 4}},
		{[]api.Mark{blank(), wide(0), wide(1), wide(2), wide(3), wide(4), wide(5), blank()}, []int{1, 2, 3, 4, 5, 6}},
		{[]api.Mark{wide(0), wide(1), at('B', 0, 1), wide(2), at('B', 1, 0), blank()}, nil},
		{[]api.Mark{wide(0), wide(1), at('B', 0, 1), wide(2), at('B', 1, 2), blank()}, []int{2, 4, 5}},
	} {
		l, _ := opening.Arrange(x.marks)
		fatalUnless(t, slices.Equal(l.Places, x.places), "Arrange(%v) = %v, not %v", x.marks, l, x.places)
		checkArrange(t, x.marks)
	}
}

// flawed are marks that may not be.
func flawed() []api.Mark {
	a := at('A', 0, 5)
	l := []api.Mark{{}, with(a, func(l *api.Label) { *l = api.Label{} })}
	for _, kind := range []int{0, -1, 4, 5, 257, math.MinInt, math.MaxInt} {
		l = append(l, api.Mark{Kind: kind}, api.Mark{Kind: kind, Label: a.Label})
	}
	for _, s := range []api.Shape{
		{K: 0, M: 1, Block: 4}, {K: 2, M: 0, Block: 4}, {K: 2, M: 3, Block: 4}, {K: 255, M: 1, Block: 4}, {K: 128, M: 128, Block: 4}, {K: -1, M: -1, Block: 4}, {K: 2, M: -1, Block: 4},
		{K: math.MaxInt, M: 1, Block: 4}, {K: math.MaxInt, M: math.MaxInt, Block: 4}, {K: math.MinInt, M: math.MinInt, Block: 4},
		{K: 2, M: 1, Block: 0}, {K: 2, M: 1, Block: -1}, {K: 2, M: 1, Block: 65537}, {K: 2, M: 1, Block: math.MaxInt}, {},
	} {
		l = append(l, with(a, func(l *api.Label) { l.Shape = s }))
	}
	for _, i := range []int{-1, 3, 4, 256, math.MinInt, math.MaxInt} {
		l = append(l, with(a, func(l *api.Label) { l.Index = i }))
	}
	for _, e := range []int{-1, api.MaxEpoch + 1, math.MinInt, math.MaxInt} {
		l = append(l, with(a, func(l *api.Label) { l.Epoch = e }))
	}
	return l
}

// P18.1: one mark that may not be, wherever it stands, and whatever stands beside it; of a blank or silent mark the label says nothing.
func TestMarksThatMayNotBe(t *testing.T) {
	lists := [][]api.Mark{nil, {blank()}, {at('A', 0, 5), at('A', 1, 5), at('A', 2, 5)}, {at('A', 0, 5), at('A', 1, 5), at('B', 0, 5), at('B', 1, 5)}, {at('A', 0, 5)}}
	for _, list := range lists {
		for i := range len(list) + 1 {
			for _, flaw := range flawed() {
				wantNumber(t, fmt.Sprint("Arrange of ", flaw), checkArrange(t, slices.Insert(slices.Clone(list), i, flaw)), api.ErrArg)
				want, _ := opening.Arrange(slices.Insert(slices.Clone(list), i, blank()))
				hidden := slices.Insert(slices.Clone(list), i, api.Mark{Kind: api.MarkBlank, Label: flaw.Label})
				l, _ := opening.Arrange(hidden)
				checkArrange(t, hidden)
				fatalUnless(t, sameLayout(l, want), "Arrange(%v) = %v, not %v", hidden, l, want)
				checkArrange(t, slices.Insert(slices.Clone(list), i, api.Mark{Kind: api.MarkSilent, Label: flaw.Label}))
			}
			for _, kind := range []int{api.MarkBlank, api.MarkSilent} {
				checkArrange(t, slices.Insert(slices.Clone(list), i, api.Mark{Kind: kind, Label: at('A', 1, 99).Label}))
			}
		}
	}
}

// Limits: 255 marks, of any kind, and one more.
func TestManyMarks(t *testing.T) {
	wide := func(i int) api.Mark {
		return with(at('A', i, 1), func(l *api.Label) { l.Shape = api.Shape{K: 254, M: 1, Block: 1} })
	}
	for _, kinds := range []struct {
		anew func(i int) api.Mark
		want api.Errno
	}{
		{func(int) api.Mark { return blank() }, api.ErrQuorum},
		{func(int) api.Mark { return silent() }, api.ErrQuorum},
		{func(i int) api.Mark { return at('A', i%3, i) }, api.OK},
		{func(i int) api.Mark { return at('A', 2, i) }, api.ErrQuorum},
		{func(i int) api.Mark { return at(byte(i), 1, i) }, api.ErrQuorum},
		{func(i int) api.Mark { return at(byte(i/2), i%2, 7) }, api.ErrDrives},
		{wide, api.OK},
		{func(i int) api.Mark { return wide(254 - i) }, api.OK},
	} {
		var marks []api.Mark
		for i := range 255 {
			marks = append(marks, kinds.anew(i))
		}
		wantNumber(t, "Arrange of 255", checkArrange(t, marks), kinds.want)
		wantNumber(t, "Arrange of 256", checkArrange(t, append(marks, silent())), api.ErrArg)
		wantNumber(t, "Arrange of 1000", checkArrange(t, slices.Concat(marks, marks, marks, marks)), api.ErrArg)
	}
}

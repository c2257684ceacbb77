package scrub_test

import (
	"bytes"
	"fmt"
	"math"
	"slices"
	"strings"
	"testing"

	"cairn/api"
	"cairn/scrub"
	"cairn/votes"
)

// exhibit is what a place of a store of that shape shows.
type exhibit func(shape api.Shape, place int) api.Seen

// The writings that are shown, the newest last; each has three stripes.
var (
	older = ofWriting(gen(2), "the older", 0)
	right = ofWriting(gen(3), "the shown", 1)
	long  = ofWriting(gen(3), "the longer", 0)
	newer = ofWriting(api.Gen{Epoch: 2, Count: 1}, "the newer", 0)
)

// ofWriting shows the shard of a writing, which has two stripes and some bytes more.
func ofWriting(g api.Gen, data string, more int) exhibit {
	return func(shape api.Shape, place int) api.Seen {
		all := (strings.Repeat(data, 10))[:2*shape.K*shape.Block+1+more%(shape.K*shape.Block)]
		s := shardsOf(shape, "a", all, g)[place]
		s.Size += len(data) // beside one that has as many bytes
		return api.Seen{Kind: api.SeenShard, Shard: s}
	}
}

// changed is what is shown of a shard that is changed.
func changed(of exhibit, change func(s *api.Shard)) exhibit {
	return func(shape api.Shape, place int) api.Seen {
		seen := of(shape, place)
		change(&seen.Shard)
		return seen
	}
}

// asKind is the same under another kind.
func asKind(of exhibit, kind int) exhibit {
	return func(shape api.Shape, place int) api.Seen {
		seen := of(shape, place)
		seen.Kind = kind
		return seen
	}
}

// bare shows this kind and no more.
func bare(kind int) exhibit {
	return func(api.Shape, int) api.Seen { return api.Seen{Kind: kind} }
}

// turned is the shown shard with a byte of block j turned.
func turned(j int) exhibit {
	return changed(right, func(s *api.Shard) { s.Blocks[j][0] ^= 7 })
}

// exhibits are of all kinds.
func exhibits() []exhibit {
	return []exhibit{
		right, bare(api.SeenNone), bare(api.SeenSpoilt), bare(api.SeenSilent), older, turned(0), turned(2),
		func(api.Shape, int) api.Seen { return api.Seen{Kind: api.SeenSilent, Err: api.ErrIO} },
		newer, long, bare(0), bare(5), bare(-1), bare(math.MaxInt), bare(math.MinInt),
		asKind(right, api.SeenNone), asKind(right, api.SeenSpoilt), asKind(right, api.SeenSilent), asKind(right, 0), asKind(older, 9),
		turned(1),
		changed(right, func(s *api.Shard) { s.Blocks = s.Blocks[:2] }),
		changed(right, func(s *api.Shard) { s.Blocks = nil }),
		changed(right, func(s *api.Shard) { s.Blocks = append(s.Blocks, []byte{9}) }),
		changed(right, func(s *api.Shard) { s.Blocks[1] = nil }),
		changed(right, func(s *api.Shard) { s.Blocks = make([][]byte, 3) }),
		changed(right, func(s *api.Shard) { s.Blocks[0] = append(s.Blocks[0], 0) }),
		changed(right, func(s *api.Shard) { s.Gen = api.Gen{} }),
		changed(right, func(s *api.Shard) { s.Gen, s.Size, s.Blocks = api.Gen{}, 0, [][]byte{{1}} }),
		changed(right, func(s *api.Shard) { s.Gen = api.Gen{Epoch: math.MaxInt, Count: math.MinInt} }),
		changed(right, func(s *api.Shard) { s.Size = math.MinInt }),
		// what says nothing in it
		changed(right, func(s *api.Shard) { s.Index, s.Key, s.Store, s.Shape = 77, "other", [8]byte{}, api.Shape{} }),
		func(shape api.Shape, place int) api.Seen { s := right(shape, place); s.Err = api.ErrDown; return s },
	}
}

// verdicts are what may be handed in beside what is shown.
func verdicts(shape api.Shape, seen []api.Seen) []api.Verdict {
	v := votes.Judge(shape, seen)
	s := right(shape, 0).Shard
	forced := api.Verdict{Kind: api.IsValue, Gen: s.Gen, Size: s.Size}
	return []api.Verdict{
		v, forced,
		{Kind: api.IsValue, Gen: s.Gen, Size: s.Size, Places: []int{-1, 999, 0, 0}}, // its Places say nothing
		{Kind: api.IsAbsent}, {Kind: api.IsAbsent, Gen: s.Gen, Size: s.Size, Places: []int{0, 1}},
		{Kind: api.IsUnknown, Gen: s.Gen, Size: s.Size}, {}, {Kind: 9, Gen: s.Gen}, {Kind: -1}, {Kind: math.MaxInt, Gen: s.Gen, Size: s.Size},
		{Kind: api.IsValue},
	}
}

// set0 is a set of that shape, none of whose drives is there.
func set0(shape api.Shape) *api.Set {
	return &api.Set{Shape: shape, Store: theStore(), Last: gen(1), Disks: make([]api.Disk, shape.K+shape.M)}
}

// checkJudge wants of each verdict what the chapter's words find, and counts it.
func checkJudge(t *testing.T, shape api.Shape, l []exhibit, met map[int]int) {
	t.Helper()
	seen := make([]api.Seen, len(l))
	for i := range l {
		seen[i] = l[i](shape, i)
	}
	for _, v := range verdicts(shape, seen) {
		want := findsByHand(shape, "a key", v, seen)
		got := scrub.Judge(set0(shape), "a key", v, seen)
		fatalUnless(t, slices.Equal(got, want), "%v: Judge of %+v and %+v = %v, not %v", shape, v, seen, got, want)
		for i, f := range got {
			fatalUnless(t, f.Key == "a key" && from(-1, f.Place, len(l)-1) && (i == 0 || got[i-1].Place < f.Place), "%v", got)
			met[f.Kind]++
		}
		if len(got) == 0 {
			met[0]++
		}
	}
}

// wantAllKinds wants finds of each kind to have come often, and none of another one.
func wantAllKinds(t *testing.T, met map[int]int) {
	t.Helper()
	for kind := range 7 {
		fatalUnless(t, met[kind] > 100 && len(met) == 7, "the kind %d: %v", kind, met)
	}
}

// P29.1: of few drives each shows each thing, beside each other, with each verdict.
func TestJudgeOfFewDrives(t *testing.T) {
	met := map[int]int{}
	all := exhibits()
	for shape, these := range map[api.Shape][]exhibit{
		{K: 1, M: 1, Block: 1}: all,
		{K: 1, M: 1, Block: 3}: all,
		{K: 2, M: 1, Block: 2}: all[:12],
		{K: 2, M: 2, Block: 2}: all[:7],
		{K: 3, M: 2, Block: 1}: all[:4],
	} {
		every(shape.K+shape.M, len(these), func(which []int) {
			var l []exhibit
			for _, at := range which {
				l = append(l, these[at])
			}
			checkJudge(t, shape, l, met)
		})
	}
	wantAllKinds(t, met)
}

// P29.1: of more drives, most of which show one writing.
func TestJudgeOfMoreDrives(t *testing.T) {
	r := source(291)
	met := map[int]int{}
	for range 1500 {
		shape := pick(r, api.Shape{K: 2, M: 2, Block: 3}, api.Shape{K: 3, M: 2, Block: 1}, api.Shape{K: 1, M: 1, Block: 4}, api.Shape{K: 3, M: 3, Block: 2}, api.Shape{K: 5, M: 4, Block: 3}, api.Shape{K: 8, M: 6, Block: 2})
		l := slices.Repeat([]exhibit{right}, shape.K+shape.M)
		for range r.Intn(shape.M + 3) {
			l[r.Intn(len(l))] = pick(r, pick(r, exhibits()...), turned(r.Intn(3)))
		}
		checkJudge(t, shape, l, met)
	}
	wantAllKinds(t, met)
}

// P29.1: what is found, kind by kind, told by hand.
func TestJudgeByHand(t *testing.T) {
	shape := api.Shape{K: 2, M: 2, Block: 2}
	g, h := gen(3), gen(2)
	value := func(l ...exhibit) []api.Find {
		seen := make([]api.Seen, len(l))
		for i := range l {
			seen[i] = l[i](shape, i)
		}
		s := right(shape, 0).Shard
		return scrub.Judge(set0(shape), "k", api.Verdict{Kind: api.IsValue, Gen: s.Gen, Size: s.Size}, seen)
	}
	of := func(place, kind int, g api.Gen) api.Find {
		return api.Find{Key: "k", Place: place, Kind: kind, Gen: g}
	}
	none, spoilt, silent := bare(api.SeenNone), bare(api.SeenSpoilt), bare(api.SeenSilent)
	short := changed(right, func(s *api.Shard) { s.Blocks = s.Blocks[:2] })
	for i, x := range []struct {
		got  []api.Find
		want []api.Find
	}{
		{value(right, right, right, right), nil},
		{value(none, right, right, spoilt), []api.Find{of(0, api.FoundMissing, g), of(3, api.FoundSpoilt, g)}},
		{value(right, silent, older, right), []api.Find{of(1, api.FoundSilent, g), of(2, api.FoundStray, h)}},
		{value(right, right, bare(7), bare(0)), []api.Find{of(2, api.FoundSilent, g), of(3, api.FoundSilent, g)}},
		{value(right, turned(0), right, right), []api.Find{of(1, api.FoundWrong, g)}},
		{value(turned(0), right, right, turned(2)), []api.Find{of(0, api.FoundWrong, g), of(3, api.FoundWrong, g)}},      // in unlike blocks
		{value(turned(0), right, right, turned(0)), []api.Find{of(-1, api.FoundUnknown, g)}},                             // in one
		{value(turned(1), right, right, none), []api.Find{of(-1, api.FoundUnknown, g), of(3, api.FoundMissing, g)}},      // 2 * 1 + 1 is above 2
		{value(turned(1), none, right, none), []api.Find{of(1, api.FoundMissing, g), of(3, api.FoundMissing, g)}},        // two rows fit each other, whatever they are
		{value(right, none, none, none), []api.Find{of(-1, api.FoundUnknown, g), of(1, 1, g), of(2, 1, g), of(3, 1, g)}}, // too few rows
		{value(none, none, none, older), []api.Find{of(0, 1, g), of(1, 1, g), of(2, 1, g), of(3, api.FoundStray, h)}},    // no block is shown
		{value(short, right, right, right), nil}, // what is not there is lost, not wrong
		{value(short, right, right, turned(2)), []api.Find{of(-1, api.FoundUnknown, g)}},
		{value(short, turned(0), right, turned(2)), []api.Find{of(-1, api.FoundUnknown, g), of(1, api.FoundWrong, g)}}, // the one block tells, the other can't
	} {
		fatalUnless(t, slices.Equal(x.got, x.want), "%d: %v, not %v", i, x.got, x.want)
	}
}

// P29.1: each of the shard's bytes is held against the others': wherever one is turned, in whatever block and place, it is found there.
func TestEachByteCounts(t *testing.T) {
	for _, shape := range []api.Shape{{K: 2, M: 2, Block: 3}, {K: 3, M: 2, Block: 4}} {
		data := strings.Repeat("some bytes ", 3)
		for place, s := range shardsOf(shape, "a", data, gen(1)) {
			for j := range s.Blocks {
				for c := range s.Blocks[j] {
					var seen []api.Seen
					for _, s := range shardsOf(shape, "a", data, gen(1)) {
						seen = append(seen, api.Seen{Kind: api.SeenShard, Shard: s})
					}
					seen[place].Shard.Blocks[j][c] ^= byte(1 << (c % 8))
					got := scrub.Judge(set0(shape), "a", votes.Judge(shape, seen), seen)
					fatalUnless(t, slices.Equal(got, []api.Find{{Key: "a", Place: place, Kind: api.FoundWrong, Gen: gen(1)}}), "%v, the byte %d of the block %d at %d: %v", shape, c, j, place, got)
				}
			}
		}
	}
}

// P29.1: nothing of a set that may not be, and of another number of places; no drive is called.
func TestJudgeRefused(t *testing.T) {
	shape := small()
	var seen []api.Seen
	for i := range 3 {
		seen = append(seen, bare(api.SeenNone)(shape, i))
	}
	v := api.Verdict{Kind: api.IsValue, Gen: gen(1)}
	l := shelves(shape, "a", "hello")
	judge := func(set *api.Set, seen []api.Seen) int { return len(scrub.Judge(set, "a", v, seen)) }
	fatalUnless(t, judge(setOf(shape, l), seen) == 3, "it is not judged")
	for i, change := range faults() {
		set := setOf(shape, l)
		change(set)
		fatalUnless(t, judge(set, seen) == 0, "%d: it is judged", i)
		for n := range 9 { // nor with as many places as the shape or the list may say
			fatalUnless(t, judge(set, make([]api.Seen, n)) == 0, "%d: it is judged of %d places", i, n)
		}
	}
	fatalUnless(t, judge(nil, seen) == 0 && judge(nil, nil) == 0, "no set is judged")
	for _, n := range []int{0, 1, 2, 4, 6, 255, 1 << 20} {
		fatalUnless(t, judge(setOf(shape, l), make([]api.Seen, n)) == 0, "it is judged of %d places", n)
	}
	for _, d := range l {
		fatalUnless(t, d.news() == "", "a drive was called")
	}
}

// P29.1: a key is told as it was handed in, whatever it is.
func TestJudgeOfAnyKey(t *testing.T) {
	seen := make([]api.Seen, 3)
	for _, key := range []string{"", "a", "\x00\xff", strings.Repeat("k", 256), strings.Repeat("k", 1<<20)} {
		for kind := range 5 {
			l := scrub.Judge(set0(small()), key, api.Verdict{Kind: kind}, seen)
			fatalUnless(t, len(l) >= 3, "%v", l)
			for _, f := range l {
				fatalUnless(t, f.Key == key, "%q for %q", f.Key, key)
			}
		}
	}
}

// P29.1: as many drives as there may be; the last of them is told too.
func TestJudgeOfManyDrives(t *testing.T) {
	for _, shape := range []api.Shape{{K: 254, M: 1, Block: 1}, {K: 128, M: 127, Block: 2}} {
		data := string(bytes.Repeat([]byte("much "), 60))
		wrong := []int{254, 0, 77, 78, 100, 101, 253}[:min(7, shape.M/2)]
		var seen []api.Seen
		for _, s := range shardsOf(shape, "a", data, gen(1)) {
			seen = append(seen, api.Seen{Kind: api.SeenShard, Shard: s})
		}
		want := map[int]int{}
		for _, i := range wrong {
			seen[i].Shard.Blocks[0][0]++
			want[i] = api.FoundWrong
		}
		if len(wrong) == 0 {
			seen[254], want[254] = api.Seen{Kind: api.SeenNone}, api.FoundMissing
		}
		got := scrub.Judge(set0(shape), "a", votes.Judge(shape, seen), seen)
		fatalUnless(t, len(got) == len(want), "%v", got)
		for _, f := range got {
			fatalUnless(t, f == api.Find{Key: "a", Place: f.Place, Kind: want[f.Place], Gen: gen(1)}, "%v", f)
		}
		for i, s := range shardsOf(shape, "a", data, gen(1)) {
			if i <= shape.M/2 { // too many are wrong
				s.Blocks[0][0] ^= byte(i + 1)
			}
			seen[i] = api.Seen{Kind: api.SeenShard, Shard: s}
		}
		got = scrub.Judge(set0(shape), "a", votes.Judge(shape, seen), seen)
		fatalUnless(t, slices.Equal(got, []api.Find{{Key: "a", Place: -1, Kind: api.FoundUnknown, Gen: gen(1)}}), "%v", got)
	}
}

// faults are what makes a set of the small shape one that may not be.
func faults() []func(set *api.Set) {
	shape := func(k, m, block int) func(set *api.Set) {
		return func(set *api.Set) { set.Shape = api.Shape{K: k, M: m, Block: block} }
	}
	last := func(epoch, count int) func(set *api.Set) {
		return func(set *api.Set) { set.Last = api.Gen{Epoch: epoch, Count: count} }
	}
	wide := func(k, m int) func(set *api.Set) { // with just as many drives
		return func(set *api.Set) {
			set.Shape.K, set.Shape.M = k, m
			set.Disks = make([]api.Disk, k+m)
		}
	}
	return []func(set *api.Set){
		func(set *api.Set) { *set = api.Set{} },
		shape(0, 1, 4), shape(1, 2, 4), shape(3, 0, 4), shape(2, 1, 0), shape(2, 1, -1), shape(2, 1, 65537), shape(2, 2, 4), shape(1, 1, 4), shape(4, -1, 4),
		shape(math.MaxInt, math.MaxInt, 4), shape(math.MaxInt, math.MinInt+4, 4), shape(math.MinInt, math.MinInt+3, 4), shape(math.MaxInt, 1, 4),
		wide(255, 1), wide(128, 128), wide(1, 2), wide(0, 0), wide(0, 1), wide(1, 0),
		func(set *api.Set) { set.Disks = nil },
		func(set *api.Set) { set.Disks = set.Disks[:2] },
		func(set *api.Set) { set.Disks = append(slices.Clone(set.Disks), nil) },
		last(0, 1), last(-1, 1), last(4294967296, 1), last(1, -1), last(1, 4294967296), last(math.MinInt, 0), last(1, math.MaxInt),
	}
}

// P29.1: the edges of a set that may be.
func TestJudgeAtTheEdges(t *testing.T) {
	for i, change := range []func(set *api.Set){
		func(set *api.Set) {},
		func(set *api.Set) { set.Shape.Block = 1 },
		func(set *api.Set) { set.Shape.Block = 65536 },
		func(set *api.Set) { set.Last = api.Gen{Epoch: 1} },
		func(set *api.Set) { set.Last = api.Gen{Epoch: 4294967295, Count: 4294967295} },
		func(set *api.Set) { set.Shape.K, set.Shape.M, set.Disks = 1, 1, set.Disks[:2] },
		func(set *api.Set) { set.Shape.K, set.Shape.M, set.Disks = 254, 1, make([]api.Disk, 255) },
		func(set *api.Set) { set.Shape.K, set.Shape.M, set.Disks = 128, 127, make([]api.Disk, 255) },
		func(set *api.Set) { set.Store = [8]byte{} },
	} {
		set := setOf(small(), shelves(small()))
		change(set)
		seen := make([]api.Seen, len(set.Disks))
		got := scrub.Judge(set, "a", api.Verdict{Kind: api.IsAbsent}, seen)
		fatalUnless(t, len(got) == len(seen), "%d: %s", i, fmt.Sprint(got))
	}
}

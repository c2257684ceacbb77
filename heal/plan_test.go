package heal_test

import (
	"fmt"
	"slices"
	"testing"

	"cairn/api"
	"cairn/get"
	"cairn/heal"
)

// planByHand is Plan in the words of the chapter.
func planByHand(set *api.Set, v api.Verdict, seen []api.Seen) (write, away []int) {
	if set == nil || !isSet(set) || len(seen) != len(set.Disks) {
		return nil, nil
	}
	for place, s := range seen {
		shows := s.Kind == 2 && s.Shard.Gen == v.Gen && s.Shard.Size == v.Size
		switch {
		case set.Disks[place] == nil:
		case v.Kind == 1 && !shows:
			write = append(write, place)
		case v.Kind == 2 && (s.Kind == 2 || s.Kind == 3):
			away = append(away, place)
		}
	}
	return write, away
}

// checkPlan holds Plan against the words, and answers what it does.
func checkPlan(t *testing.T, set *api.Set, v api.Verdict, seen []api.Seen) (write, away []int) {
	t.Helper()
	wantWrite, wantAway := planByHand(set, v, seen)
	scene{set: set}.unturned(t, func() { write, away = heal.Plan(set, v, seen) })
	if !slices.Equal(write, wantWrite) || !slices.Equal(away, wantAway) {
		t.Fatalf("Plan(%v, %v, %v) = %v, %v, not %v, %v", set, v, seen, write, away, wantWrite, wantAway)
	}
	return write, away
}

// show is what a place shows of a writing.
func show(kind, epoch, count, size int) api.Seen {
	return api.Seen{Kind: kind, Shard: api.Shard{Head: api.Head{Gen: api.Gen{Epoch: epoch, Count: count}, Size: size}}}
}

// shown are what places may show: shards of the writing 1, 2 of 5 bytes and of others, and all kinds of what is none.
func shown() []api.Seen {
	return []api.Seen{
		show(2, 1, 2, 5), show(2, 1, 2, 6), show(2, 2, 2, 5), show(2, 1, 3, 5), {Kind: 1}, {Kind: 3}, {Kind: 4}, {Kind: 4, Err: api.ErrIO}, {}, {Kind: 5}, {Kind: -1},
		show(1, 1, 2, 5), show(3, 1, 2, 5), show(4, 1, 2, 5), show(0, 1, 2, 5),
	}
}

// verdicts are of all kinds, also such as nobody would judge.
func verdicts() []api.Verdict {
	var all []api.Verdict
	for kind := -1; kind < 6; kind++ {
		all = append(all, api.Verdict{Kind: kind}, api.Verdict{Kind: kind, Gen: api.Gen{Epoch: 1, Count: 2}, Size: 5}, api.Verdict{Kind: kind, Gen: api.Gen{Epoch: 1, Count: 2}, Size: 5, Places: []int{0, 1, 7, -3}})
	}
	return append(all, api.Verdict{Kind: 1, Gen: api.Gen{Epoch: 1, Count: 2}, Size: 6}, api.Verdict{Kind: 1, Gen: api.Gen{Epoch: -1, Count: 2}, Size: -6})
}

// P23.1: all lists of what places may show, with a drive at each of them or at some, and all kinds of verdicts. No drive is called.
func TestPlan(t *testing.T) {
	shows, met := shown(), map[string]int{}
	for _, shape := range []api.Shape{{K: 1, M: 1, Block: 1}, small()} {
		n := shape.K + shape.M
		for there := range 1 << n {
			l := spies(n, func(i int) *spy {
				if there>>i&1 == 0 {
					return nil
				}
				return &spy{}
			})
			set := sceneOf(shape, l).set
			every(n, len(shows), func(numbers []int) {
				seen := make([]api.Seen, n)
				for i, number := range numbers {
					seen[i] = shows[number]
				}
				for _, v := range verdicts() {
					write, away := checkPlan(t, set, v, seen)
					met[fmt.Sprint(len(write), len(away))]++
				}
			})
			for i, d := range l {
				fatalUnless(t, d == nil || d.chart() == "", "the drive %d was called", i)
			}
		}
	}
	for _, what := range []string{"0 0", "1 0", "2 0", "3 0", "0 1", "0 2", "0 3"} {
		fatalUnless(t, met[what] > 100 && len(met) == 7, "%s: %v", what, met)
	}
}

// P23.1: none of both, unless there is an element for each place.
func TestPlanOfAnotherNumber(t *testing.T) {
	for _, shape := range append(shapes(), api.Shape{K: 128, M: 127, Block: 1}) {
		n := shape.K + shape.M
		set := sceneOf(shape, spies(n, func(int) *spy { return &spy{} })).set
		for _, many := range []int{0, 1, n - 1, n, n + 1, n + 7, 2 * n, 300} {
			for _, kind := range []int{api.IsValue, api.IsAbsent} {
				seen := slices.Repeat([]api.Seen{{Kind: api.SeenSpoilt}}, many)
				write, away := checkPlan(t, set, api.Verdict{Kind: kind}, seen)
				fatalUnless(t, (len(write)+len(away) == n) == (many == n), "Plan of %d = %v, %v", many, write, away)
			}
		}
	}
}

// P23.1: none of both, if the set is refused; no drive is called.
func TestPlanOfWrongSets(t *testing.T) {
	wrongSets(func(set *api.Set, disks []subject) {
		for _, kind := range []int{api.IsValue, api.IsAbsent} {
			for _, many := range []int{len(disks), 3} {
				write, away := checkPlan(t, set, api.Verdict{Kind: kind}, slices.Repeat([]api.Seen{{Kind: api.SeenSpoilt}}, many))
				fatalUnless(t, len(write) == 0 && len(away) == 0, "Plan of %v = %v, %v", set, write, away)
			}
		}
		for i, d := range disks {
			fatalUnless(t, d.chart() == "", "the drive %d was asked %s", i, d.chart())
		}
	})
	write, away := heal.Plan(nil, api.Verdict{Kind: api.IsValue}, make([]api.Seen, 3))
	fatalUnless(t, len(write) == 0 && len(away) == 0, "Plan of no set = %v, %v", write, away)
	write, away = heal.Plan(nil, api.Verdict{Kind: api.IsAbsent}, nil)
	fatalUnless(t, len(write) == 0 && len(away) == 0, "Plan of no set = %v, %v", write, away)
}

// P23.1: of what Look says, in stores of all kinds.
func TestPlanOfALook(t *testing.T) {
	r := source(233)
	kinds := map[int]int{}
	shows := few()
	for range 3000 {
		shape := pick(r, shapes()...)
		l := slices.Repeat([]exhibit{pick(r, oldOne, nothing)}, shape.K+shape.M)
		for i := range l {
			if r.Intn(2) == 0 {
				l[i] = pick(r, shows...)
			}
		}
		s := gallery(shape, l)
		v, seen, err := get.Look(s.set, nil, "a")
		if err != api.OK {
			continue
		}
		kinds[v.Kind]++
		was := charts(s.disks)
		write, away := checkPlan(t, s.set, v, seen)
		fatalUnless(t, charts(s.disks) == was, "a drive was called")
		fatalUnless(t, (len(write) == 0 || v.Kind == api.IsValue) && (len(away) == 0 || v.Kind == api.IsAbsent) && slices.IsSorted(write) && slices.IsSorted(away), "Plan of %v = %v, %v", v, write, away)
	}
	fatalUnless(t, kinds[api.IsValue] > 100 && kinds[api.IsAbsent] > 100 && kinds[api.IsUnknown] > 50, "%v", kinds)
}

// P23.1: the most places there are.
func TestPlanOfMany(t *testing.T) {
	shape := api.Shape{K: 128, M: 127, Block: 65536}
	set := sceneOf(shape, spies(255, func(i int) *spy {
		if i%7 == 0 {
			return nil
		}
		return &spy{}
	})).set
	set.Last = api.Gen{Epoch: api.MaxEpoch, Count: api.MaxCount}
	r := source(234)
	shows := shown()
	for range 2000 {
		seen := make([]api.Seen, 255)
		for i := range seen {
			seen[i] = pick(r, shows...)
		}
		checkPlan(t, set, pick(r, verdicts()...), seen)
	}
}

// P23.8: Plan neither changes nor keeps what it is handed, the room behind it neither; its lists are new memory.
func TestPlanMemory(t *testing.T) {
	for _, kind := range []int{api.IsValue, api.IsAbsent} {
		set := sceneOf(small(), spies(3, func(int) *spy { return &spy{} })).set
		behind := make([]api.Seen, 9)
		for i := range behind {
			behind[i] = show(api.SeenShard, 9, i, i)
		}
		places := []int{5, 6, 7, 8}
		v := api.Verdict{Kind: kind, Places: places[:2]}
		var lists [][]int
		for range 4 {
			write, away := heal.Plan(set, v, behind[:3])
			fatalUnless(t, len(write)+len(away) == 3, "Plan = %v, %v", write, away)
			lists = append(lists, write, away)
		}
		for i, s := range behind {
			fatalUnless(t, fmt.Sprint(s) == fmt.Sprint(show(api.SeenShard, 9, i, i)), "the element %d became %v", i, s)
		}
		for i, l := range lists {
			for j := range l[:cap(l)] {
				l[:cap(l)][j] = 100 + i
			}
		}
		for i, l := range lists {
			for _, x := range l[:cap(l)] {
				fatalUnless(t, x == 100+i, "two lists share memory")
			}
		}
		fatalUnless(t, slices.Equal(places, []int{5, 6, 7, 8}), "the verdict's Places became %v", places)
		write, away := heal.Plan(set, v, behind[:3])
		fatalUnless(t, slices.Equal(append(write, away...), []int{0, 1, 2}), "Plan = %v, %v", write, away)
	}
}

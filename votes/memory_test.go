package votes_test

import (
	"math"
	"reflect"
	"slices"
	"sync"
	"testing"
	"time"

	"cairn/api"
	"cairn/votes"
)

// lists are all lists that the four calls answer: those of places, and those of groups.
func lists(shape api.Shape, seen []api.Seen) (places [][]int, groups [][]votes.Group) {
	told := votes.Groups(seen)
	possible, _ := votes.Possible(shape, seen)
	v := votes.Judge(shape, seen)
	for _, group := range slices.Concat(told, possible) {
		places = append(places, group.Places)
	}
	places = append(places, v.Places, votes.Stale(seen, v), votes.Stale(seen, absent), votes.Stale(seen, v))
	return places, [][]votes.Group{told, possible, votes.Groups(seen)}
}

// deepClone is a copy of places that shares no memory with them.
func deepClone(seen []api.Seen) []api.Seen {
	l := slices.Clone(seen)
	for i := range l {
		l[i].Shard.Blocks = slices.Clone(l[i].Shard.Blocks)
		for k := range l[i].Shard.Blocks {
			l[i].Shard.Blocks[k] = slices.Clone(l[i].Shard.Blocks[k])
		}
	}
	return l
}

// The page: what the places show is not changed, nor the room behind it, nor are the verdict's Places.
func TestArgumentsAreNotChanged(t *testing.T) {
	r := source(183)
	for range 2000 {
		shape := pick(r, shapes(9)...)
		n := shape.K + shape.M
		all := noisy(r, slices.Concat(randomPlaces(r, shape, true), line("g5 h5 x -")))
		was := deepClone(all)
		v := api.Verdict{Kind: 1 + r.Intn(4), Gen: g, Size: 5, Places: []int{3, 1, 2, 9}}
		votes.Groups(all[:n])
		votes.Judge(shape, all[:n])
		votes.Stale(all[:n], v)
		votes.Stale(all[:n], api.Verdict{Kind: v.Kind, Gen: v.Gen, Size: v.Size, Places: v.Places[:1]})
		votes.Possible(shape, all[:n])
		fatalUnless(t, reflect.DeepEqual(all, was), "what the places show was changed: %v", all)
		fatalUnless(t, slices.Equal(v.Places, []int{3, 1, 2, 9}), "the verdict's Places were changed: %v", v.Places)
	}
}

// The page: what stands in the room behind a list is not looked at.
func TestRoomIsNotLookedAt(t *testing.T) {
	r := source(184)
	for range 1000 {
		shape := pick(r, shapes(7)...)
		n := shape.K + shape.M
		all := append(randomPlaces(r, shape, true), line("g5 h5 g5 x")...)
		check(t, shape, all[:n], true)
		check(t, shape, all[:n-1], true)
	}
}

// P17.8: lists that are answered are new memory, spare room too: no two share any, in one answer and in several.
func TestAnswersAreNewMemory(t *testing.T) {
	r := source(185)
	for range 500 {
		shape := pick(r, shapes(12)...)
		seen := randomPlaces(r, shape, true)
		places, groups := lists(shape, seen)
		for number, l := range places {
			l = l[:cap(l)]
			for i := range l {
				l[i] = -1 - number
			}
		}
		for number, l := range places {
			for _, x := range l[:cap(l)] {
				fatalUnless(t, x == -1-number, "two lists of %s share memory", short(seen))
			}
		}
		for number, l := range groups {
			l = l[:cap(l)]
			for i := range l {
				l[i] = votes.Group{Size: -1 - number}
			}
		}
		for number, l := range groups {
			for _, x := range l[:cap(l)] {
				fatalUnless(t, x.Size == -1-number, "two lists of %s share memory", short(seen))
			}
		}
		check(t, shape, seen, true)
	}
}

// The page: a verdict's Places that are handed in to Stale are none of its answer.
func TestStaleSharesNothing(t *testing.T) {
	v := value(g, 5, 7, 7, 7, 7)
	for _, kind := range []int{api.IsValue, api.IsAbsent, api.IsUnknown} {
		v.Kind = kind
		l := votes.Stale(line("h5 h5 h5 x"), v)
		l = l[:cap(l)]
		for i := range l {
			l[i] = -1
		}
		fatalUnless(t, slices.Equal(v.Places, []int{7, 7, 7, 7}), "Stale shares the verdict's Places: %v", v.Places)
	}
}

// The page: nothing that was handed in is kept, and nothing from call to call: an answer stands whatever is done to the places behind it, and a second call is answered as the first.
func TestNothingIsKept(t *testing.T) {
	r := source(186)
	for range 1000 {
		shape := pick(r, shapes(7)...)
		seen := randomPlaces(r, shape, true)
		groups, v := votes.Groups(seen), votes.Judge(shape, seen)
		possible, none := votes.Possible(shape, seen)
		stale := votes.Stale(seen, v)
		was := slices.Clone(seen)
		for i := range seen {
			seen[i] = shows(api.Gen{Epoch: 99, Count: i}, 99)
		}
		fatalUnless(t, sameGroups(groups, wordsOfGroups(was)) && sameVerdict(v, wordsOfJudge(shape, was)) && slices.Equal(stale, wordsOfStale(was, v)), "what was told of %s became another", short(was))
		words, could := wordsOfPossible(shape, was)
		fatalUnless(t, sameGroups(possible, words) && none == could, "what was possible of %s became another", short(was))
		check(t, shape, seen, true)
		check(t, shape, was, true)
	}
}

// P17.8: many may ask at one time, of one list.
func TestManyAtOneTime(t *testing.T) {
	r := source(187)
	shape := shape(5, 4)
	seen := randomPlaces(r, shape, true)
	want, verdict := wordsOfGroups(seen), wordsOfJudge(shape, seen)
	words, could := wordsOfPossible(shape, seen)
	var all sync.WaitGroup
	for range 8 {
		all.Go(func() {
			for range 200 {
				possible, none := votes.Possible(shape, seen)
				v := votes.Judge(shape, seen)
				if !sameGroups(votes.Groups(seen), want) || !sameVerdict(v, verdict) || !sameGroups(possible, words) || none != could || !slices.Equal(votes.Stale(seen, v), wordsOfStale(seen, verdict)) {
					t.Errorf("many at one time are answered otherwise than one")
					return
				}
			}
		})
	}
	all.Wait()
}

// P17.8, Limits: Groups and Stale take lists of any length, and end in a short time.
func TestLongLists(t *testing.T) {
	const n = 1 << 19
	begin := time.Now()
	seen := make([]api.Seen, n)
	for i := range seen {
		seen[i] = shows(api.Gen{Epoch: i % 3, Count: i}, 5)
	}
	groups := votes.Groups(seen)
	fatalUnless(t, len(groups) == n, "%d writings are told as %d", n, len(groups))
	for i, group := range groups[1:] {
		a, b := groups[i].Gen, group.Gen
		fatalUnless(t, len(group.Places) == 1 && group.Places[0] == b.Count && (a.Epoch > b.Epoch || a.Epoch == b.Epoch && a.Count > b.Count), "behind %v comes %v", a, group)
	}
	for i := range seen {
		seen[i] = shows(g, i%2)
	}
	groups = votes.Groups(seen)
	fatalUnless(t, len(groups) == 2 && groups[0].Size == 1 && groups[1].Size == 0, "two writings are told as %d", len(groups))
	for k, group := range groups {
		fatalUnless(t, len(group.Places) == n/2, "of %d places are told %d", n/2, len(group.Places))
		for i, at := range group.Places {
			fatalUnless(t, at == 2*i+1-k, "the place of number %d is %d", i, at)
		}
	}
	stale, all := votes.Stale(seen, value(g, 0)), votes.Stale(seen, absent)
	fatalUnless(t, slices.Equal(stale, groups[0].Places) && len(all) == n && slices.IsSorted(all), "Stale of a long list tells %d and %d places", len(stale), len(all))
	v := votes.Judge(shape(2, 1), seen)
	l, none := votes.Possible(shape(math.MaxInt, math.MaxInt), seen)
	fatalUnless(t, sameVerdict(v, unknown) && len(l) == 0 && !none, "of a long list: %v; %v, %v", v, l, none)
	fatalUnless(t, time.Since(begin) < 20*time.Second, "long lists took %v", time.Since(begin))
}

// P17.8: in the greatest shape, with all places but few hidden, what is possible is told at once, though its fillings are beyond counting.
func TestManyFillings(t *testing.T) {
	begin := time.Now()
	for range 200 {
		greatest := shape(128, 127)
		seen := slices.Repeat(line("x s ?"), 85)
		for i := range 120 {
			seen[2*i] = shows(api.Gen{Epoch: 1, Count: i}, 5)
		}
		l, none := votes.Possible(greatest, seen)
		fatalUnless(t, len(l) == 120 && none && l[0].Gen.Count == 119 && slices.Equal(l[0].Places, []int{238}), "of 120 writings and 135 hidden places %d are possible", len(l))
		seen[254], seen[0] = seen[2], seen[2]
		for i := 1; i < 16; i++ {
			seen[2*i-1] = api.Seen{Kind: api.SeenNone}
		}
		l, none = votes.Possible(greatest, seen)
		fatalUnless(t, none && sameGroups(l, wordsOfReach(128, seen)), "possible are %v, %v", l, none)
	}
	fatalUnless(t, time.Since(begin) < 20*time.Second, "many fillings took %v", time.Since(begin))
}

// wordsOfReach are the writings that K places would show, if the hidden ones did, where none counts as it is.
func wordsOfReach(k int, seen []api.Seen) []votes.Group {
	hidden := 0
	for _, s := range seen {
		if wordsOfHidden(s) {
			hidden++
		}
	}
	return slices.DeleteFunc(wordsOfGroups(seen), func(group votes.Group) bool { return len(group.Places)+hidden < k })
}

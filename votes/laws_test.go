package votes_test

import (
	"slices"
	"testing"

	"cairn/api"
	"cairn/votes"
)

// counting are the writings that K places or more show.
func counting(k int, seen []api.Seen) []votes.Group {
	return slices.DeleteFunc(votes.Groups(seen), func(group votes.Group) bool { return len(group.Places) < k })
}

// stores hands over what all places of every small shape may show, and much of greater ones.
func stores(kinds []api.Seen, n int, seed int64, each func(api.Shape, []api.Seen)) {
	for _, shape := range shapes(n) {
		every(shape.K+shape.M, kinds, func(seen []api.Seen) { each(shape, seen) })
	}
	r := source(seed)
	for range 3000 {
		shape := randomShape(r)
		each(shape, randomPlaces(r, shape, r.Intn(2) == 0))
	}
}

// P17.5: at most two writings count, two only if K = M, each at just K places; no two stand at K + 1.
func TestTwoThatCount(t *testing.T) {
	twice := 0
	stores(line("g5 g6 h5 h6 - x"), 5, 175, func(shape api.Shape, seen []api.Seen) {
		l := counting(shape.K, seen)
		fatalUnless(t, len(l) <= 2, "%v: of %s count %v", shape, short(seen), l)
		fatalUnless(t, len(counting(shape.K+1, seen)) <= 1, "%v: of %s stand at K + 1 %v", shape, short(seen), counting(shape.K+1, seen))
		v := votes.Judge(shape, seen)
		fatalUnless(t, (len(l) > 0) == (v.Kind == api.IsValue), "%v: of %s count %v, and the verdict is %v", shape, short(seen), l, v)
		if len(l) == 2 {
			twice++
			fatalUnless(t, shape.K == shape.M && len(l[0].Places) == shape.K && len(l[1].Places) == shape.K, "%v: of %s count %v", shape, short(seen), l)
		}
		if len(l) > 0 {
			fatalUnless(t, sameVerdict(v, value(l[0].Gen, l[0].Size, l[0].Places...)), "%v: of %s count %v, and the verdict is %v", shape, short(seen), l, v)
		}
	})
	fatalUnless(t, twice > 50, "two count only %d times", twice)
}

// P17.6: whatever of every small store is hidden.
func TestHiddenInSmallStores(t *testing.T) {
	for _, shape := range shapes(5) {
		n := shape.K + shape.M
		every(n, line("g5 g6 h5 -"), func(seen []api.Seen) {
			for number := range 1 << n {
				hide := make([]bool, n)
				for i := range hide {
					hide[i] = number>>i&1 == 1
				}
				checkHiding(t, shape, seen, hide, func(i int) api.Seen { return line("x s ?")[(number+i)%3] })
			}
		})
	}
}

// P17.6: some of greater stores is hidden.
func TestHiddenInGreaterStores(t *testing.T) {
	r := source(176)
	kept := 0
	for range 6000 {
		shape := randomShape(r)
		seen := randomPlaces(r, shape, true)
		for i, s := range seen {
			if wordsOfHidden(s) {
				seen[i] = api.Seen{Kind: api.SeenNone}
			}
		}
		hide := make([]bool, len(seen))
		for _, i := range r.Perm(len(seen))[:min(pick(r, 1, 2, shape.M-1, shape.M, shape.M+1, r.Intn(len(seen)+1)), len(seen))] {
			hide[i] = true
		}
		if checkHiding(t, shape, seen, hide, func(int) api.Seen { return pick(r, line("x s ?")...) }) {
			kept++
		}
	}
	fatalUnless(t, kept > 200, "a writing that stands at K + h places is there only %d times", kept)
}

// checkHiding holds P17.6, sentence by sentence; it tells whether the first one spoke of a writing.
func checkHiding(t *testing.T, shape api.Shape, seen []api.Seen, hide []bool, veil func(int) api.Seen) bool {
	t.Helper()
	behind, hidden := slices.Clone(seen), 0
	for i := range hide {
		if hide[i] {
			behind[i] = veil(i)
			hidden++
		}
	}
	before, after := votes.Judge(shape, seen), votes.Judge(shape, behind)
	l := counting(shape.K, seen)
	stays := len(l) > 0 && len(l[0].Places) >= shape.K+hidden
	fatalUnless(t, !stays || after.Kind == api.IsValue && after.Gen == l[0].Gen && after.Size == l[0].Size, "%v: %v of %s stands at K + %d places, and behind the hiding %s it is %v", shape, l, short(seen), hidden, short(behind), after)
	if before.Kind == api.IsAbsent {
		want := absent
		if hidden > shape.M {
			want = unknown
		}
		fatalUnless(t, sameVerdict(after, want), "%v: %s is absent, and behind the hiding %s it is %v", shape, short(seen), short(behind), after)
	}
	told := slices.ContainsFunc(l, func(group votes.Group) bool { return group.Gen == after.Gen && group.Size == after.Size })
	fatalUnless(t, after.Kind != api.IsValue || told, "%v: of %s count %v, and behind the hiding %s it is %v", shape, short(seen), l, short(behind), after)
	if shownStill(seen, behind) {
		possible, none := votes.Possible(shape, behind)
		told := slices.ContainsFunc(possible, func(group votes.Group) bool { return group.Gen == before.Gen && group.Size == before.Size })
		fatalUnless(t, before.Kind == api.IsValue && told || before.Kind == api.IsAbsent && none, "%v: %s is %v, and behind the hiding %s possible are %v, %v", shape, short(seen), before, short(behind), possible, none)
	}
	return stays
}

// shownStill tells whether each hidden place showed nothing or a writing that some other place shows still.
func shownStill(seen, behind []api.Seen) bool {
	for i := range seen {
		if seen[i].Kind == api.SeenShard && !slices.ContainsFunc(behind, func(s api.Seen) bool { return alike(s, seen[i]) }) {
			return false
		}
	}
	return true
}

// P17.7: the elements change places: the verdict is the same, and its Places go with them; so with what is possible.
func TestPlacesChange(t *testing.T) {
	r := source(177)
	stores(line("g5 g6 h5 - x"), 5, 178, func(shape api.Shape, seen []api.Seen) {
		to := r.Perm(len(seen))
		moved := make([]api.Seen, len(seen))
		for i, k := range to {
			moved[k] = seen[i]
		}
		want := votes.Judge(shape, seen)
		move(want.Places, to)
		v := votes.Judge(shape, moved)
		fatalUnless(t, sameVerdict(v, want), "%v: %s is %v, and in another order %s it is %v", shape, short(seen), want, short(moved), v)
		groups, could := votes.Possible(shape, seen)
		for _, group := range groups {
			move(group.Places, to)
		}
		other, none := votes.Possible(shape, moved)
		fatalUnless(t, sameGroups(groups, other) && could == none, "%v: of %s possible are %v, %v, and in another order %v, %v", shape, short(seen), groups, could, other, none)
	})
}

// move gives places their new numbers, rising again.
func move(places, to []int) {
	for i, at := range places {
		places[i] = to[at]
	}
	slices.Sort(places)
}

// P17.7: places that show nothing, made to show the verdict's writing one behind the other, leave it the verdict's.
func TestMoreOfTheVerdict(t *testing.T) {
	r := source(179)
	more := 0
	stores(line("g5 g6 h5 - x"), 5, 180, func(shape api.Shape, seen []api.Seen) {
		v := votes.Judge(shape, seen)
		if v.Kind != api.IsValue {
			return
		}
		grown := slices.Clone(seen)
		for _, i := range r.Perm(len(seen)) {
			if grown[i].Kind != api.SeenNone {
				continue
			}
			grown[i] = shows(v.Gen, v.Size)
			v.Places = append(v.Places, i)
			slices.Sort(v.Places)
			more++
			got := votes.Judge(shape, grown)
			fatalUnless(t, sameVerdict(got, v), "%v: %s is %v, and grown to %s it is %v", shape, short(seen), v, short(grown), got)
		}
	})
	fatalUnless(t, more > 1000, "a place was made to show the writing only %d times", more)
}

// P17.2, P17.3: where there is a value, the places that show it and those that are stale are all, each once.
func TestStaleAndPlacesAreAll(t *testing.T) {
	stores(line("g5 g6 h5 - x"), 5, 181, func(shape api.Shape, seen []api.Seen) {
		v := votes.Judge(shape, seen)
		if v.Kind != api.IsValue {
			return
		}
		stale := votes.Stale(seen, v)
		all := slices.Sorted(slices.Values(slices.Concat(stale, v.Places)))
		for i, at := range all {
			fatalUnless(t, i == at, "%v: %s is %v, stale are %v", shape, short(seen), v, stale)
		}
		fatalUnless(t, len(all) == len(seen), "%v: %s is %v, stale are %v", shape, short(seen), v, stale)
	})
}

// P17.4: of what nothing is hidden the verdict alone is possible; and the verdict, if it is not unknown, is always possible.
func TestPossibleHasTheVerdict(t *testing.T) {
	stores(line("g5 g6 h5 - x"), 5, 182, func(shape api.Shape, seen []api.Seen) {
		v := votes.Judge(shape, seen)
		groups, none := votes.Possible(shape, seen)
		at := slices.IndexFunc(groups, func(group votes.Group) bool {
			return sameVerdict(value(group.Gen, group.Size, group.Places...), v)
		})
		fatalUnless(t, v.Kind != api.IsValue || at >= 0 && !none, "%v: %s is %v, possible are %v, %v", shape, short(seen), v, groups, none)
		fatalUnless(t, v.Kind == api.IsValue || none, "%v: %s is %v, possible are %v, %v", shape, short(seen), v, groups, none)
		if !slices.ContainsFunc(seen, wordsOfHidden) {
			fatalUnless(t, len(groups) == 1 && at == 0 || len(groups) == 0 && v.Kind == api.IsAbsent, "%v: %s is %v, possible are %v, %v", shape, short(seen), v, groups, none)
		}
	})
}

package audit_test

import (
	"math"
	"math/rand"
	"slices"
	"testing"

	"cairn/api"
	"cairn/audit"
)

// worse tells whether a is worse than b, in the words of the chapter.
func worse(a, b api.Finding) bool {
	rank := func(kind int) int {
		for place, one := range []int{api.IsMaybe, api.IsSure} {
			if kind == one {
				return place
			}
		}
		return 2
	}
	if rank(a.Kind) != rank(b.Kind) {
		return rank(a.Kind) < rank(b.Kind)
	}
	if a.Whole != b.Whole {
		return a.Whole < b.Whole
	}
	sum := func(f api.Finding) int { return f.Stale + f.Spoilt + f.Silent }
	if sum(a) != sum(b) {
		return sum(a) > sum(b)
	}
	return a.Key < b.Key
}

// worstByHand is the first of those of which none is worse.
func worstByHand(l []api.Finding) (api.Finding, bool) {
	for _, f := range l {
		if !slices.ContainsFunc(l, func(other api.Finding) bool { return worse(other, f) }) {
			return f, true
		}
	}
	return api.Finding{}, false
}

func wantWorst(t *testing.T, l []api.Finding, want api.Finding, there bool) {
	t.Helper()
	was := slices.Clone(l)
	f, is := audit.Worst(l)
	fatalUnless(t, f == want && is == there, "Worst(%+v) = %+v, %v, not %+v, %v", l, f, is, want, there)
	fatalUnless(t, slices.Equal(l, was), "the list became %v", l)
}

// The chapter's last row.
func TestExamplesOfWorst(t *testing.T) {
	maybe, sure := api.Finding{Kind: api.IsMaybe}, api.Finding{Kind: api.IsSure, Whole: 2}
	wantWorst(t, []api.Finding{maybe, sure}, maybe, true)
	wantWorst(t, []api.Finding{sure, maybe}, maybe, true)
	wantWorst(t, nil, api.Finding{}, false)
	wantWorst(t, []api.Finding{}, api.Finding{}, false)
	wantWorst(t, []api.Finding{{}}, api.Finding{}, true)
}

// P25.3: of two findings the worse one, in either order, by each of the four in its turn, whatever those behind it say.
func TestTheWorseOfTwo(t *testing.T) {
	for i, x := range []struct{ worse, better api.Finding }{
		{api.Finding{Kind: api.IsMaybe, Whole: 9, Key: "z"}, api.Finding{Kind: api.IsSure, Silent: 9, Key: "a"}},
		{api.Finding{Kind: api.IsMaybe, Whole: 9, Key: "z"}, api.Finding{Kind: api.IsNone, Silent: 9, Key: "a"}},
		{api.Finding{Kind: api.IsSure, Whole: 9, Key: "z"}, api.Finding{Kind: api.IsNone, Silent: 9, Key: "a"}},
		{api.Finding{Kind: api.IsSure, Whole: 9, Key: "z"}, api.Finding{Kind: 0, Silent: 9, Key: "a"}},
		{api.Finding{Kind: api.IsSure, Whole: 9, Key: "z"}, api.Finding{Kind: math.MaxInt, Silent: 9, Key: "a"}},
		{api.Finding{Kind: api.IsSure, Whole: 9, Key: "z"}, api.Finding{Kind: math.MinInt, Silent: 9, Key: "a"}},
		{api.Finding{Kind: api.IsMaybe, Whole: 2, Key: "z"}, api.Finding{Kind: api.IsMaybe, Whole: 3, Stale: 9, Key: "a"}},
		{api.Finding{Kind: 4, Whole: 2, Key: "z"}, api.Finding{Kind: api.IsNone, Whole: 3, Stale: 9, Key: "a"}}, // all other numbers count as one
		{api.Finding{Kind: api.IsNone, Whole: 2, Key: "z"}, api.Finding{Kind: -7, Whole: 3, Stale: 9, Key: "a"}},
		{api.Finding{Whole: math.MinInt, Key: "z"}, api.Finding{Whole: math.MaxInt, Key: "a"}}, // their difference is none that an int has
		{api.Finding{Whole: -1, Key: "z"}, api.Finding{Key: "a"}},
		{api.Finding{Kind: api.IsSure, Stale: 1, Spoilt: 1, Silent: 1, Key: "z"}, api.Finding{Kind: api.IsSure, Stale: 2, Key: "a"}},
		{api.Finding{Kind: api.IsSure, Silent: 3, Key: "z"}, api.Finding{Kind: api.IsSure, Stale: 2, Key: "a"}},
		{api.Finding{Kind: api.IsSure, Spoilt: 3, Key: "z"}, api.Finding{Kind: api.IsSure, Silent: 2, Key: "a"}},
		{api.Finding{Kind: api.IsSure, Stale: 3, Key: "z"}, api.Finding{Kind: api.IsSure, Spoilt: 2, Key: "a"}},
		{api.Finding{Stale: 0, Key: "z"}, api.Finding{Stale: math.MaxInt, Silent: 1, Key: "a"}}, // the sum wraps round
		{api.Finding{Stale: math.MaxInt, Key: "z"}, api.Finding{Stale: math.MaxInt, Spoilt: 1, Key: "a"}},
		{api.Finding{Stale: math.MinInt, Spoilt: -1, Key: "z"}, api.Finding{Stale: 5, Key: "a"}},
		{api.Finding{Stale: math.MaxInt, Key: "z"}, api.Finding{Stale: math.MinInt, Key: "a"}},
		{api.Finding{Kind: api.IsSure, Stale: 1, Key: "a"}, api.Finding{Kind: api.IsSure, Silent: 1, Key: "b"}},
		{api.Finding{Key: ""}, api.Finding{Key: "\x00"}},
		{api.Finding{Key: "a"}, api.Finding{Key: "a\x00"}},
		{api.Finding{Key: "z"}, api.Finding{Key: "ä"}},
		{api.Finding{Key: "Z"}, api.Finding{Key: "a"}},
		{api.Finding{Key: "a", Gen: api.Gen{Epoch: 9}}, api.Finding{Key: "b"}}, // of generations nothing is asked
	} {
		fatalUnless(t, worse(x.worse, x.better) && !worse(x.better, x.worse), "%d: the words say otherwise", i)
		wantWorst(t, []api.Finding{x.worse, x.better}, x.worse, true)
		wantWorst(t, []api.Finding{x.better, x.worse}, x.worse, true)
		wantWorst(t, []api.Finding{x.better, x.worse, x.better, x.worse}, x.worse, true)
	}
}

// P25.3: of those that are as bad as each other the first one.
func TestTheFirstOfTheWorst(t *testing.T) {
	alike := []api.Finding{
		{Key: "a", Kind: 7, Whole: 1, Stale: 3},
		{Key: "a", Kind: api.IsNone, Whole: 1, Spoilt: 3},
		{Key: "a", Kind: 0, Whole: 1, Silent: 3, Gen: api.Gen{Epoch: 1}},
		{Key: "a", Kind: -1, Whole: 1, Stale: 5, Silent: -2, Gen: api.Gen{Count: 1}},
		{Key: "a", Kind: math.MaxInt, Whole: 1, Stale: math.MaxInt, Spoilt: math.MaxInt, Silent: 5},
	}
	better := api.Finding{Key: "a", Kind: 7, Whole: 1, Stale: 2}
	for turn := range alike {
		l := slices.Concat(alike[turn:], alike[:turn])
		wantWorst(t, l, l[0], true)
		wantWorst(t, append([]api.Finding{better}, l...), l[0], true)
		wantWorst(t, slices.Concat([]api.Finding{better}, l, []api.Finding{better}), l[0], true)
	}
	two := []api.Finding{{Kind: api.IsMaybe, Stale: 1, Gen: api.Gen{Epoch: 1}}, {Kind: api.IsMaybe, Silent: 1, Gen: api.Gen{Epoch: 2}}}
	wantWorst(t, two, two[0], true)
	slices.Reverse(two)
	wantWorst(t, two, two[0], true)
}

// someFinding is one of few, so that many are alike.
func someFinding(r *rand.Rand) api.Finding {
	return api.Finding{
		Key:    pick(r, "", "a", "a\x00", "b", "\xff"),
		Kind:   pick(r, api.IsSure, api.IsSure, api.IsMaybe, api.IsNone, 0, 4, -1, math.MaxInt, math.MinInt),
		Gen:    api.Gen{Epoch: r.Intn(3), Count: r.Intn(3)},
		Whole:  pick(r, 0, 1, 2, -1, math.MaxInt, math.MinInt),
		Stale:  pick(r, 0, 1, 2, math.MaxInt, math.MinInt),
		Spoilt: pick(r, 0, 0, 1, math.MaxInt, -1),
		Silent: pick(r, 0, 0, 1, 2, math.MaxInt),
	}
}

// P25.3: lists of all lengths.
func TestWorstOfSome(t *testing.T) {
	r := source(253)
	for range 30000 {
		l := make([]api.Finding, r.Intn(9))
		for i := range l {
			l[i] = someFinding(r)
			if i > 0 && r.Intn(3) > 0 { // like another one but for a part
				l[i].Kind, l[i].Whole = l[i-1].Kind, l[i-1].Whole
			}
		}
		want, is := worstByHand(l)
		wantWorst(t, l, want, is)
	}
}

// Of much the worst stands first, last or in the midst.
func TestWorstOfMuch(t *testing.T) {
	l := slices.Repeat([]api.Finding{{Key: "k", Kind: api.IsSure, Whole: 3}}, 1<<20)
	for _, at := range []int{0, 1, 1 << 19, 1<<20 - 1} {
		bad := api.Finding{Key: "k", Kind: api.IsSure, Whole: 2, Silent: at}
		l[at] = bad
		f, is := audit.Worst(l)
		fatalUnless(t, f == bad && is, "Worst = %v, %v", f, is)
		l[at] = api.Finding{Key: "k", Kind: api.IsSure, Whole: 3}
	}
}

// The room behind the list says nothing.
func TestRoomBehindTheList(t *testing.T) {
	l := []api.Finding{{Kind: api.IsSure}, {Kind: api.IsNone}, {Kind: api.IsMaybe}}
	wantWorst(t, l[:2], l[0], true)
	wantWorst(t, l[:0], api.Finding{}, false)
	wantWorst(t, l[1:2], l[1], true)
}

package votes_test

import (
	"fmt"
	"math/rand"
	"slices"
	"testing"

	"cairn/api"
	"cairn/votes"
)

// g and h are generations, g below h.
var g, h = api.Gen{Epoch: 2, Count: 9}, api.Gen{Epoch: 3, Count: 1}

// shows is a place that shows a writing.
func shows(gen api.Gen, size int) api.Seen {
	return api.Seen{Kind: api.SeenShard, Shard: api.Shard{Head: api.Head{Gen: gen, Size: size}}}
}

// line is what places show, as the chapter's examples write it: "g5 h5 - x s"; ? is a Kind that is none of api's.
func line(text string) []api.Seen {
	var seen []api.Seen
	for i := 0; i < len(text); i++ {
		switch text[i] {
		case '-':
			seen = append(seen, api.Seen{Kind: api.SeenNone})
		case 'x':
			seen = append(seen, api.Seen{Kind: api.SeenSpoilt})
		case 's':
			seen = append(seen, api.Seen{Kind: api.SeenSilent, Err: api.ErrOffline})
		case '?':
			seen = append(seen, api.Seen{})
		case 'g', 'h':
			gen := g
			if text[i] == 'h' {
				gen = h
			}
			seen = append(seen, shows(gen, int(text[i+1]-'0')))
			i++
		}
	}
	return seen
}

// shape is one that may be, if K and M may.
func shape(k, m int) api.Shape { return api.Shape{K: k, M: m, Block: 4} }

// shapes are all of up to so many places.
func shapes(n int) []api.Shape {
	var all []api.Shape
	for k := 1; k < n; k++ {
		for m := 1; m <= k && k+m <= n; m++ {
			all = append(all, shape(k, m))
		}
	}
	return all
}

// wordsOfShape is the page's sentence on what shape may be.
func wordsOfShape(s api.Shape) bool {
	if s.M < 1 || s.M > s.K || s.K > 254 {
		return false
	}
	return s.K+s.M <= 255 && s.Block >= 1 && s.Block <= 65536
}

// wordsOfHidden tells whether the chapter calls a place hidden.
func wordsOfHidden(s api.Seen) bool { return s.Kind != 1 && s.Kind != 2 }

// alike tells whether two places show one writing.
func alike(a, b api.Seen) bool {
	return a.Kind == 2 && b.Kind == 2 && a.Shard.Gen.Epoch == b.Shard.Gen.Epoch && a.Shard.Gen.Count == b.Shard.Gen.Count && a.Shard.Size == b.Shard.Size
}

// newer is the chapter's word, of two places that show a writing.
func newer(a, b api.Seen) bool {
	x, y := a.Shard, b.Shard
	if x.Gen.Epoch != y.Gen.Epoch {
		return x.Gen.Epoch > y.Gen.Epoch
	}
	if x.Gen.Count != y.Gen.Count {
		return x.Gen.Count > y.Gen.Count
	}
	return x.Size > y.Size
}

// wordsOfGroups is P17.1: again and again the newest of those that are not told yet.
func wordsOfGroups(seen []api.Seen) []votes.Group {
	var groups []votes.Group
	told := make([]bool, len(seen))
	for {
		newest := -1
		for i, s := range seen {
			if s.Kind == 2 && !told[i] && (newest < 0 || newer(s, seen[newest])) {
				newest = i
			}
		}
		if newest < 0 {
			return groups
		}
		group := votes.Group{Gen: seen[newest].Shard.Gen, Size: seen[newest].Shard.Size}
		for i, s := range seen {
			if alike(s, seen[newest]) {
				group.Places = append(group.Places, i)
				told[i] = true
			}
		}
		groups = append(groups, group)
	}
}

// wordsOfJudge is P17.2, place by place, without any group.
func wordsOfJudge(shape api.Shape, seen []api.Seen) api.Verdict {
	if !wordsOfShape(shape) || len(seen) != shape.K+shape.M {
		return api.Verdict{Kind: api.IsUnknown}
	}
	best, unseen := -1, 0
	var standing []int
	for i, s := range seen {
		var at []int
		for j := range seen {
			if alike(s, seen[j]) {
				at = append(at, j)
			}
		}
		if len(at) >= shape.K && (best < 0 || newer(s, seen[best])) {
			best, standing = i, at
		}
		if wordsOfHidden(s) {
			unseen++
		}
	}
	switch {
	case best >= 0:
		return api.Verdict{Kind: api.IsValue, Gen: seen[best].Shard.Gen, Size: seen[best].Shard.Size, Places: standing}
	case unseen <= shape.M:
		return api.Verdict{Kind: api.IsAbsent}
	}
	return api.Verdict{Kind: api.IsUnknown}
}

// wordsOfStale is P17.3.
func wordsOfStale(seen []api.Seen, v api.Verdict) []int {
	var stale []int
	for i, s := range seen {
		if v.Kind == api.IsValue && !alike(s, shows(v.Gen, v.Size)) || v.Kind == api.IsAbsent && s.Kind != 1 {
			stale = append(stale, i)
		}
	}
	return stale
}

// fillings are all that Judge may be handed by P17.4, one behind the other in one list.
func fillings(seen []api.Seen, each func([]api.Seen)) {
	var choices []api.Seen
	for _, group := range wordsOfGroups(seen) {
		choices = append(choices, shows(group.Gen, group.Size))
	}
	choices = append(choices, api.Seen{Kind: api.SeenNone})
	var at []int
	for i := range seen {
		if wordsOfHidden(seen[i]) {
			at = append(at, i)
		}
	}
	everyAt(slices.Clone(seen), at, choices, each)
}

// wordsOfPossible is P17.4: every filling is judged.
func wordsOfPossible(shape api.Shape, seen []api.Seen) ([]votes.Group, bool) {
	if !wordsOfShape(shape) || len(seen) != shape.K+shape.M {
		return nil, false
	}
	groups, absent := wordsOfGroups(seen), false
	could := make([]bool, len(groups))
	fillings(seen, func(filled []api.Seen) {
		v := wordsOfJudge(shape, filled)
		absent = absent || v.Kind == api.IsAbsent
		for i, group := range groups {
			if v.Kind == api.IsValue && v.Gen == group.Gen && v.Size == group.Size {
				could[i] = true
			}
		}
	})
	var possible []votes.Group
	for i, group := range groups {
		if could[i] {
			possible = append(possible, group)
		}
	}
	return possible, absent
}

// sameGroups tells whether two lists of groups say the same.
func sameGroups(a, b []votes.Group) bool {
	return slices.EqualFunc(a, b, func(x, y votes.Group) bool {
		return x.Gen == y.Gen && x.Size == y.Size && slices.Equal(x.Places, y.Places)
	})
}

// sameVerdict tells whether two verdicts say the same.
func sameVerdict(a, b api.Verdict) bool {
	return a.Kind == b.Kind && a.Gen == b.Gen && a.Size == b.Size && slices.Equal(a.Places, b.Places)
}

// short is what places show, in a message, and is put into words only there.
type short []api.Seen

func (seen short) String() string {
	text := ""
	for _, s := range seen {
		if s.Kind == api.SeenShard {
			text += fmt.Sprintf("[%d.%d %d]", s.Shard.Gen.Epoch, s.Shard.Gen.Count, s.Shard.Size)
		} else {
			text += fmt.Sprintf("[kind %d]", s.Kind)
		}
	}
	return text
}

// check holds the four calls against the words. few: there are so few hidden places that Possible's fillings can be gone through.
func check(t *testing.T, shape api.Shape, seen []api.Seen, few bool) {
	t.Helper()
	groups, want := votes.Groups(seen), wordsOfGroups(seen)
	fatalUnless(t, sameGroups(groups, want), "Groups(%s) = %v, not %v", short(seen), groups, want)
	v, verdict := votes.Judge(shape, seen), wordsOfJudge(shape, seen)
	fatalUnless(t, sameVerdict(v, verdict), "Judge(%v, %s) = %v, not %v", shape, short(seen), v, verdict)
	for _, of := range append(otherVerdicts(want), v) {
		stale, words := votes.Stale(seen, of), wordsOfStale(seen, of)
		fatalUnless(t, slices.Equal(stale, words), "Stale(%s, %v) = %v, not %v", short(seen), of, stale, words)
	}
	if few {
		possible, absent := votes.Possible(shape, seen)
		words, none := wordsOfPossible(shape, seen)
		fatalUnless(t, sameGroups(possible, words) && absent == none, "Possible(%v, %s) = %v, %v, not %v, %v", shape, short(seen), possible, absent, words, none)
	}
}

// otherVerdicts are those of which Stale is asked beside Judge's own: of each writing that is seen, of one that isn't, and of every kind.
func otherVerdicts(groups []votes.Group) []api.Verdict {
	l := []api.Verdict{{Kind: api.IsAbsent, Gen: g, Size: 5}, {Kind: api.IsUnknown, Gen: g, Size: 5}, {Gen: g, Size: 5}, {Kind: 4, Gen: g, Size: 5}, {Kind: -1, Gen: g, Size: 5}, {Kind: api.IsValue, Gen: api.Gen{Epoch: 7, Count: 7}, Size: 7}, {Kind: api.IsValue}}
	for _, group := range groups {
		l = append(l, api.Verdict{Kind: api.IsValue, Gen: group.Gen, Size: group.Size})
	}
	return l
}

// every goes through all lists of n of these.
func every(n int, of []api.Seen, each func([]api.Seen)) {
	at := make([]int, n)
	for i := range at {
		at[i] = i
	}
	everyAt(make([]api.Seen, n), at, of, each)
}

// everyAt lays at these places, in every way, one of the choices each.
func everyAt(seen []api.Seen, at []int, choices []api.Seen, each func([]api.Seen)) {
	if len(at) == 0 {
		each(seen)
		return
	}
	for _, c := range choices {
		seen[at[0]] = c
		everyAt(seen, at[1:], choices, each)
	}
}

// noisy is the same to this layer, with all filled that says nothing here: what is hidden and what shows nothing has a writing in it that stands elsewhere.
func noisy(r *rand.Rand, seen []api.Seen) []api.Seen {
	l := slices.Clone(seen)
	for i := range l {
		s := &l[i]
		s.Err = pick(r, api.OK, api.ErrDown, api.ErrOffline, -1)
		if s.Kind != api.SeenShard {
			s.Shard = seen[r.Intn(len(seen))].Shard
		}
		s.Shard.Store = [8]byte{byte(r.Intn(9))}
		s.Shard.Key = pick(r, "", "a", "b")
		s.Shard.Index = r.Intn(7) - 2
		s.Shard.Shape = pick(r, api.Shape{}, shape(2, 1), shape(1, 9))
		s.Shard.Blocks = pick(r, nil, [][]byte{}, [][]byte{{1, 2}}, [][]byte{nil, {3}})
	}
	return l
}

func source(seed int64) *rand.Rand { return rand.New(rand.NewSource(seed)) }

// pick is one of the list.
func pick[E any](r *rand.Rand, l ...E) E { return l[r.Intn(len(l))] }

func fatalUnless(t *testing.T, is bool, says string, args ...any) {
	t.Helper()
	if !is {
		t.Fatalf(says, args...)
	}
}

package votes_test

import (
	"math"
	"math/rand"
	"slices"
	"testing"

	"cairn/api"
	"cairn/votes"
)

func wantJudge(t *testing.T, shape api.Shape, text string, want api.Verdict) {
	t.Helper()
	v := votes.Judge(shape, line(text))
	fatalUnless(t, sameVerdict(v, want), "Judge(%v, %s) = %v, not %v", shape, text, v, want)
}

func wantStale(t *testing.T, text string, v api.Verdict, want ...int) {
	t.Helper()
	l := votes.Stale(line(text), v)
	fatalUnless(t, slices.Equal(l, want), "Stale(%s, %v) = %v, not %v", text, v, l, want)
}

func wantPossible(t *testing.T, shape api.Shape, text string, absent bool, want ...votes.Group) {
	t.Helper()
	l, none := votes.Possible(shape, line(text))
	fatalUnless(t, sameGroups(l, want) && none == absent, "Possible(%v, %s) = %v, %v, not %v, %v", shape, text, l, none, want, absent)
}

func value(gen api.Gen, size int, at ...int) api.Verdict {
	return api.Verdict{Kind: api.IsValue, Gen: gen, Size: size, Places: at}
}

func group(gen api.Gen, size int, at ...int) votes.Group {
	return votes.Group{Gen: gen, Size: size, Places: at}
}

// absent and unknown are verdicts without a value.
var absent, unknown = api.Verdict{Kind: api.IsAbsent}, api.Verdict{Kind: api.IsUnknown}

// The chapter's examples, row by row.
func TestExamples(t *testing.T) {
	three, four := shape(2, 1), shape(2, 2)
	wantJudge(t, three, "g5 g5 -", value(g, 5, 0, 1))
	wantJudge(t, three, "h5 g5 g5", value(g, 5, 1, 2))
	wantJudge(t, three, "g5 - -", absent)
	wantJudge(t, three, "g5 x -", absent)
	wantJudge(t, three, "g5 x s", unknown)
	wantJudge(t, three, "- -", unknown)
	wantJudge(t, three, "- - - -", unknown)
	wantJudge(t, three, "g5 g5 g5 g5", unknown)
	wantJudge(t, four, "g5 h4 h4 g5", value(h, 4, 1, 2))
	wantJudge(t, four, "g5 g6 g6 g5", value(g, 6, 1, 2))
	wantJudge(t, shape(1, 1), "g5 s", value(g, 5, 0))

	got, want := votes.Groups(line("g5 h5 x g5 g7")), []votes.Group{group(h, 5, 1), group(g, 7, 4), group(g, 5, 0, 3)}
	fatalUnless(t, sameGroups(got, want), "Groups = %v, not %v", got, want)

	wantStale(t, "g5 - x s h5", value(g, 5), 1, 2, 3, 4)
	wantStale(t, "g5 - x s h5", absent, 0, 2, 3, 4)
	wantStale(t, "g5 - x s h5", unknown)

	wantPossible(t, three, "g5 x -", true, group(g, 5, 0))
	wantPossible(t, three, "g5 g5 x", false, group(g, 5, 0, 1))
	wantPossible(t, three, "x x x", true)
	wantPossible(t, four, "g5 h5 h5 x", false, group(h, 5, 1, 2))
	wantPossible(t, four, "h5 g5 g5 x", false, group(h, 5, 0), group(g, 5, 1, 2))
}

// P17.1: lists of none, of hidden places alone, of one writing; beside each other the same generation of many sizes, the same size of many generations.
func TestGroups(t *testing.T) {
	for _, x := range []struct {
		text string
		want []votes.Group
	}{
		{"", nil}, {"-", nil}, {"x s ? -", nil}, {"g5", []votes.Group{group(g, 5, 0)}},
		{"- g0 x g0", []votes.Group{group(g, 0, 1, 3)}},
		{"g1 g2 g3 g2 g1", []votes.Group{group(g, 3, 2), group(g, 2, 1, 3), group(g, 1, 0, 4)}},
		{"g9 h1", []votes.Group{group(h, 1, 1), group(g, 9, 0)}},
		{"h1 g9 h0", []votes.Group{group(h, 1, 0), group(h, 0, 2), group(g, 9, 1)}},
	} {
		got := votes.Groups(line(x.text))
		fatalUnless(t, sameGroups(got, x.want), "Groups(%s) = %v, not %v", x.text, got, x.want)
	}
}

// P17.1: the Epoch comes ahead of the Count, the Count ahead of the Size, of whatever numbers there are in an int.
func TestNewer(t *testing.T) {
	numbers := []int{math.MinInt, math.MinInt + 1, -1 << 32, -1, 0, 1, 2, 1 << 32, math.MaxInt - 1, math.MaxInt}
	var seen []api.Seen
	for _, epoch := range numbers {
		for _, count := range numbers {
			for _, size := range numbers {
				seen = append(seen, shows(api.Gen{Epoch: epoch, Count: count}, size))
			}
		}
	}
	last := len(seen) - 1
	for try := range 4 {
		order := source(int64(try)).Perm(len(seen))
		mixed := make([]api.Seen, len(seen))
		for i, k := range order {
			mixed[k] = seen[last-i] // seen rises, so the i-th newest stands at order[i]
		}
		groups := votes.Groups(mixed)
		fatalUnless(t, len(groups) == len(seen), "%d writings are told as %d", len(seen), len(groups))
		for i, got := range groups {
			s := seen[last-i].Shard
			want := group(s.Gen, s.Size, order[i])
			fatalUnless(t, sameGroups([]votes.Group{got}, []votes.Group{want}), "the writing of number %d is %v, not %v", i, got, want)
		}
	}
	for i := range seen {
		for _, k := range []int{i + 1, i + 7, i + 60, i + 300} {
			if k < len(seen) {
				check(t, shape(1, 1), []api.Seen{seen[i], seen[k]}, true)
				check(t, shape(1, 1), []api.Seen{seen[k], seen[i]}, true)
			}
		}
	}
}

// P17.1 to P17.4: all that the places of every small shape may show.
func TestEverySmallStore(t *testing.T) {
	kinds := line("g5 g6 h4 - x s")
	for _, shape := range shapes(5) {
		every(shape.K+shape.M, kinds, func(seen []api.Seen) { check(t, shape, seen, true) })
	}
	few := line("g5 h5 - x")
	for _, shape := range shapes(6) {
		if n := shape.K + shape.M; n == 6 {
			every(n, few, func(seen []api.Seen) { check(t, shape, seen, true) })
		}
	}
}

// P17.2, P17.4: what is handed in is of the shape's number of places, or nothing can be told.
func TestOtherNumbersOfPlaces(t *testing.T) {
	for _, shape := range shapes(8) {
		for n := range 12 {
			for _, text := range []string{"g5", "-", "x"} {
				seen := slices.Repeat(line(text), n)
				check(t, shape, seen, n < 9)
				if n != shape.K+shape.M {
					v := votes.Judge(shape, seen)
					l, could := votes.Possible(shape, seen)
					fatalUnless(t, sameVerdict(v, unknown) && len(l) == 0 && !could, "of %v and %d places: %v; %v, %v", shape, n, v, l, could)
				}
			}
		}
	}
}

// P17.2, P17.4: shapes at the edges of what may be, and beyond; seen has as many places as there would be.
func TestShapes(t *testing.T) {
	numbers := []int{math.MinInt, -256, -255, -2, -1, 0, 1, 2, 126, 127, 128, 129, 253, 254, 255, 256, 257, 65536, 1 << 31, 1 << 32, math.MaxInt - 1, math.MaxInt}
	blocks := []int{math.MinInt, -1, 0, 1, 2, 65535, 65536, 65537, 1 << 32, math.MaxInt}
	for _, k := range numbers {
		for _, m := range numbers {
			for _, block := range blocks {
				shape := api.Shape{K: k, M: m, Block: block}
				n := k + m
				if n < 0 || n > 600 {
					n = 3
				}
				may := wordsOfShape(shape)
				seen := slices.Repeat(line("g5"), n)
				v := votes.Judge(shape, seen)
				l, none := votes.Possible(shape, seen)
				if !may {
					fatalUnless(t, sameVerdict(v, unknown) && len(l) == 0 && !none, "of the shape %v: %v; %v, %v", shape, v, l, none)
					continue
				}
				fatalUnless(t, v.Kind == api.IsValue && len(v.Places) == n && len(l) == 1 && len(l[0].Places) == n && !none, "of the shape %v: %v; %v, %v", shape, v, l, none)
			}
		}
	}
}

// P17.2: K places are enough, K - 1 are not; M hidden ones leave it absent, one more does not; in every shape there is.
func TestJudgeAtItsEdges(t *testing.T) {
	for _, shape := range shapes(255) {
		k, m := shape.K, shape.M
		if k > 20 && m > 3 && k-m > 3 && k+m < 253 {
			continue // of the others those at the edges are enough
		}
		lay := func(standing, hidden int) []api.Seen {
			seen := slices.Repeat(line("-"), k+m)
			copy(seen, slices.Repeat(line("g5"), standing))
			copy(seen[k+m-hidden:], slices.Repeat(line("s"), hidden))
			return seen
		}
		for _, x := range []struct {
			seen []api.Seen
			kind int
		}{
			{lay(k, 0), api.IsValue}, {lay(k, m), api.IsValue}, {lay(k+m, 0), api.IsValue},
			{lay(k-1, 0), api.IsAbsent}, {lay(k-1, m), api.IsAbsent}, {lay(k-1, m+1), api.IsUnknown},
			{lay(0, 0), api.IsAbsent}, {lay(0, m), api.IsAbsent}, {lay(0, m+1), api.IsUnknown}, {lay(0, k+m), api.IsUnknown},
		} {
			v := votes.Judge(shape, x.seen)
			fatalUnless(t, v.Kind == x.kind && sameVerdict(v, wordsOfEdge(x.kind, x.seen)), "Judge(%v, %s) = %v", shape, short(x.seen), v)
		}
	}
}

// wordsOfEdge is the verdict of that kind, where g5 is the only writing.
func wordsOfEdge(kind int, seen []api.Seen) api.Verdict {
	v := api.Verdict{Kind: kind}
	if kind != api.IsValue {
		return v
	}
	v.Gen, v.Size = g, 5
	for i, s := range seen {
		if s.Kind == api.SeenShard {
			v.Places = append(v.Places, i)
		}
	}
	return v
}

// P17.2: where two count the newer one does, wherever it stands; where the newest does not count an older one may.
func TestTheNewestThatCounts(t *testing.T) {
	four := shape(2, 2)
	wantJudge(t, four, "h4 h4 g5 g5", value(h, 4, 0, 1))
	wantJudge(t, four, "g5 g5 h4 h4", value(h, 4, 2, 3))
	wantJudge(t, four, "g9 h9 h8 g9", value(g, 9, 0, 3))
	wantJudge(t, shape(3, 3), "h0 g9 h0 g9 g9 h0", value(h, 0, 0, 2, 5))
	wantJudge(t, shape(1, 1), "g5 h4", value(h, 4, 1))
	wantJudge(t, shape(1, 1), "x ?", unknown)
	wantJudge(t, shape(1, 1), "- ?", absent)
	wantJudge(t, shape(3, 2), "h5 g5 h5 g5 g6", absent)
}

// The chapter: every Kind but SeenNone and SeenShard is hidden, and what else a place tells says nothing.
func TestKinds(t *testing.T) {
	for _, kind := range []int{math.MinInt, -2, -1, 0, 3, 4, 5, 6, 1 << 32, 1<<32 + 1, 1<<32 + 2, math.MaxInt} {
		odd := api.Seen{Kind: kind, Shard: shows(g, 5).Shard}
		for n := range 5 {
			seen := append(slices.Repeat([]api.Seen{odd}, n), slices.Repeat(line("g5"), 4-n)...)
			check(t, shape(2, 2), seen, true)
			check(t, shape(3, 1), seen, true)
			fatalUnless(t, len(votes.Stale(seen, value(g, 5))) == n && len(votes.Stale(seen, absent)) == 4, "Stale of %d of the kind %d", n, kind)
		}
	}
}

// The chapter: of a shard the Gen and the Size alone are asked, of nothing and of what is hidden not even these.
func TestOnlyTheWritingIsAsked(t *testing.T) {
	r := source(171)
	kinds := line("g5 g5 g6 h5 - - x s ?")
	for range 20000 {
		shape := pick(r, shapes(7)...)
		seen := make([]api.Seen, shape.K+shape.M)
		for i := range seen {
			seen[i] = pick(r, kinds...)
		}
		check(t, shape, noisy(r, seen), true)
		plain, none := votes.Possible(shape, seen)
		other, could := votes.Possible(shape, noisy(r, seen))
		fatalUnless(t, sameGroups(plain, other) && none == could, "Possible(%v, %s) hangs on more than the writings", shape, short(seen))
	}
}

// P17.3: the verdict is taken as it is: of writings that nobody shows, with places that say nothing, in lists of any length.
func TestStale(t *testing.T) {
	all := "g5 g6 h5 - x s ? g5"
	wantStale(t, all, value(g, 5, 3, 4, 99), 1, 2, 3, 4, 5, 6)
	wantStale(t, all, value(g, 6), 0, 2, 3, 4, 5, 6, 7)
	wantStale(t, all, value(g, 7), 0, 1, 2, 3, 4, 5, 6, 7)
	wantStale(t, all, value(api.Gen{Epoch: g.Epoch, Count: h.Count}, 5), 0, 1, 2, 3, 4, 5, 6, 7)
	wantStale(t, all, value(api.Gen{Epoch: h.Epoch, Count: g.Count}, 5), 0, 1, 2, 3, 4, 5, 6, 7)
	wantStale(t, all, api.Verdict{Kind: api.IsAbsent, Gen: g, Size: 5, Places: []int{0, 3}}, 0, 1, 2, 4, 5, 6, 7)
	for _, kind := range []int{math.MinInt, -1, 0, 3, 4, 1<<32 + 1, math.MaxInt} {
		wantStale(t, all, api.Verdict{Kind: kind, Gen: g, Size: 5, Places: []int{1, 2}})
	}
	wantStale(t, "", value(g, 5))
	wantStale(t, "", absent)
	wantStale(t, "- - -", absent)
	wantStale(t, "- - -", api.Verdict{Kind: api.IsValue}, 0, 1, 2)
	wantStale(t, "x s ?", api.Verdict{Kind: api.IsValue}, 0, 1, 2)
}

// P17.4: what reaches K with all that is hidden could be the verdict, unless a newer one counts as it is.
func TestPossible(t *testing.T) {
	four, five := shape(2, 2), shape(3, 2)
	wantPossible(t, four, "- - - -", true)
	wantPossible(t, four, "g5 - - -", true)
	wantPossible(t, four, "g5 h5 g6 x", true, group(h, 5, 1), group(g, 6, 2), group(g, 5, 0))
	wantPossible(t, four, "h5 g6 g6 x", false, group(h, 5, 0), group(g, 6, 1, 2))
	wantPossible(t, four, "g5 g6 g6 x", false, group(g, 6, 1, 2))
	wantPossible(t, four, "g5 g5 h5 h5", false, group(h, 5, 2, 3))
	wantPossible(t, four, "x g5 s ?", true, group(g, 5, 1))
	wantPossible(t, five, "g5 x s - -", true, group(g, 5, 0))
	wantPossible(t, five, "g5 x - - -", true)
	wantPossible(t, five, "g5 g5 h5 x -", true, group(g, 5, 0, 1))
	wantPossible(t, five, "g5 g5 g5 h5 x", false, group(g, 5, 0, 1, 2))
	wantPossible(t, five, "g5 g5 g5 x s", false, group(g, 5, 0, 1, 2))
	wantPossible(t, five, "g5 x s x ?", true, group(g, 5, 0))
	wantPossible(t, shape(1, 1), "x s", true)
	wantPossible(t, shape(1, 1), "g5 s", false, group(g, 5, 0))
	wantPossible(t, shape(1, 1), "g5 h5", false, group(h, 5, 1))
}

// P17.1 to P17.4: greater shapes, with few places that are hidden, and many writings.
func TestGreaterStores(t *testing.T) {
	r := source(172)
	for range 3000 {
		shape := randomShape(r)
		few := r.Intn(4) > 0
		check(t, shape, randomPlaces(r, shape, few), few)
	}
}

// randomShape is one of up to 255 places, at the edges more often than not.
func randomShape(r *rand.Rand) api.Shape {
	n := pick(r, 2, 3, 4, 6, 7, 12, 13, 30, 31, 128, 254, 255)
	m := pick(r, 1, 2, 3, n/2, n/2-1, n/3)
	m = min(max(m, 1), n/2)
	return api.Shape{K: n - m, M: m, Block: pick(r, 1, 7, 65536)}
}

// randomPlaces are a shape's, of which some writings stand at about K; few: at most four are hidden, of a great shape two.
func randomPlaces(r *rand.Rand, shape api.Shape, few bool) []api.Seen {
	n := shape.K + shape.M
	var seen []api.Seen
	lay := func(s api.Seen, times int) {
		seen = append(seen, slices.Repeat([]api.Seen{s}, min(max(times, 0), n-len(seen)))...)
	}
	most := r.Intn(n + 1)
	if few {
		most = r.Intn(3)
		if n < 32 {
			most = r.Intn(5)
		}
	}
	for range most {
		lay(pick(r, line("x s ?")...), 1)
	}
	for range 1 + r.Intn(3) {
		lay(shows(api.Gen{Epoch: r.Intn(3), Count: r.Intn(3)}, r.Intn(3)), pick(r, shape.K-2, shape.K-1, shape.K, shape.K+1, shape.M, 1, 2))
	}
	for len(seen) < n {
		lay(pick(r, line("- g5 h5")...), 1+r.Intn(3))
	}
	r.Shuffle(n, func(i, k int) { seen[i], seen[k] = seen[k], seen[i] })
	return seen
}

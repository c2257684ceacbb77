package audit_test

import (
	"fmt"
	"math"
	"slices"
	"strings"
	"testing"
	"time"

	"cairn/api"
	"cairn/audit"
	"cairn/drive"
	"cairn/fan"
	"cairn/get"
	"cairn/put"
	"cairn/wound"
)

// The generations of the writings of the exhibits: g below h.
var (
	g = api.Gen{Epoch: 1, Count: 9}
	h = api.Gen{Epoch: 2, Count: 1}
)

// The chapter's examples of what is shown, row by row, at the places in each order; by Key, and by All where a drive tells the key.
func TestExamples(t *testing.T) {
	none, spoilt := exhibit(nothing), spoiltOne
	for i, row := range []struct {
		shape api.Shape
		l     []exhibit
		want  api.Finding
		told  bool
	}{
		{small(), []exhibit{oldOne, oldOne, none}, api.Finding{Kind: api.IsSure, Gen: g, Whole: 2}, true},
		{small(), []exhibit{oldOne, oldOne, silentOne}, api.Finding{Kind: api.IsSure, Gen: g, Whole: 2, Silent: 1}, true},
		{small(), []exhibit{oldOne, oldOne, youngOne}, api.Finding{Kind: api.IsSure, Gen: g, Whole: 2, Stale: 1}, true},
		{small(), []exhibit{youngOne, oldOne, silentOne}, api.Finding{Kind: api.IsMaybe, Stale: 2, Silent: 1}, true},
		{small(), []exhibit{none, none, silentOne}, api.Finding{Kind: api.IsNone, Silent: 1}, false},
		{small(), []exhibit{oldOne, none, silentOne}, api.Finding{Kind: api.IsMaybe, Stale: 1, Silent: 1}, true},
		{small(), []exhibit{spoilt, spoilt, none}, api.Finding{Kind: api.IsMaybe, Spoilt: 2}, true},
		{api.Shape{K: 1, M: 1, Block: 4}, []exhibit{oldOne, silentOne}, api.Finding{Kind: api.IsMaybe, Gen: g, Whole: 1, Silent: 1}, true},
		{api.Shape{K: 3, M: 2, Block: 4}, []exhibit{oldOne, oldOne, oldOne, youngOne, silentOne}, api.Finding{Kind: api.IsSure, Gen: g, Whole: 3, Stale: 1, Silent: 1}, true},
		{api.Shape{K: 3, M: 2, Block: 4}, []exhibit{silentOne, oldOne, oldOne, youngOne, youngOne}, api.Finding{Kind: api.IsMaybe, Stale: 4, Silent: 1}, true},
	} {
		row.want.Key = "a"
		for turn := range row.l {
			l := slices.Concat(row.l[turn:], row.l[:turn])
			f, err := checkKey(t, func() scene { return gallery(row.shape, l) })
			fatalUnless(t, f == row.want && err == api.OK, "row %d: Key = %+v, %d, not %+v", i, f, err, row.want)
			all, err := checkAll(t, func() scene { return gallery(row.shape, l) })
			fatalUnless(t, err == api.OK && (len(all) == 1) == row.told && (len(all) == 0 || all[0] == row.want), "row %d: All = %+v, %d, not %+v", i, all, err, row.want)
		}
	}
}

// The chapter's last example, and that of the page: a store in which objects were put, of which drives then fail.
func TestAStoreOfExamples(t *testing.T) {
	set, w := laid(t, "a", "b")
	sure := api.Finding{Key: "a", Kind: api.IsSure, Gen: api.Gen{Epoch: 1, Count: 1}, Whole: 3}
	wantKey(t, set, "a", sure, api.OK)
	wantKey(t, set, "c", api.Finding{Key: "c", Kind: api.IsNone}, api.OK)
	other := api.Finding{Key: "b", Kind: api.IsSure, Gen: api.Gen{Epoch: 1, Count: 2}, Whole: 3}
	wantAll(t, set, "", []api.Finding{sure, other}, api.OK)
	w[2].Offline(true)
	sure.Whole, sure.Silent, other.Whole, other.Silent = 2, 1, 2, 1
	wantKey(t, set, "a", sure, api.OK)
	wantKey(t, set, "c", api.Finding{Key: "c", Kind: api.IsNone, Silent: 1}, api.OK)
	wantAll(t, set, "", []api.Finding{sure, other}, api.OK)
	wantAll(t, set, "b", []api.Finding{other}, api.OK)
	w[1].Flip("o61", 45, []byte{1})
	maybe := api.Finding{Key: "a", Kind: api.IsMaybe, Stale: 1, Spoilt: 1, Silent: 1}
	wantKey(t, set, "a", maybe, api.OK)
	wantAll(t, set, "", []api.Finding{maybe, other}, api.OK)
	w[1].Offline(true)
	wantKey(t, set, "a", api.Finding{Key: "a", Kind: api.IsMaybe, Stale: 1, Silent: 2}, api.OK)
	wantAll(t, set, "", nil, api.ErrQuorum)
	for _, x := range w {
		x.Power(false)
	}
	wantKey(t, set, "a", api.Finding{}, api.ErrDown)
	wantAll(t, set, "", nil, api.ErrDown)
	wantKey(t, set, "", api.Finding{}, api.ErrKey)
	wantKey(t, nil, "", api.Finding{}, api.ErrNil)
	wantAll(t, nil, "", nil, api.ErrNil)
}

func wantKey(t *testing.T, set *api.Set, key string, want api.Finding, no api.Errno) {
	t.Helper()
	f, err := audit.Key(set, nil, key)
	fatalUnless(t, f == want && err == no, "Key %q = %+v, %d, not %+v, %d", key, f, err, want, no)
}

func wantAll(t *testing.T, set *api.Set, prefix string, want []api.Finding, no api.Errno) {
	t.Helper()
	l, err := audit.All(set, nil, prefix)
	fatalUnless(t, slices.Equal(l, want) && err == no, "All %q = %+v, %d, not %+v, %d", prefix, l, err, want, no)
}

// Edges of what is sure, by the numbers: K = M, where a newer writing could come up out of what is silent; the silent ones just as many as would do, and one fewer.
func TestEdgesOfSureness(t *testing.T) {
	two, three := api.Shape{K: 2, M: 2, Block: 4}, api.Shape{K: 3, M: 3, Block: 4}
	find := func(kind int, gen api.Gen, counts ...int) api.Finding {
		return api.Finding{Key: "a", Kind: kind, Gen: gen, Whole: counts[0], Stale: counts[1], Spoilt: counts[2], Silent: counts[3]}
	}
	none, s, x := exhibit(nothing), silentOne, spoiltOne
	for i, row := range []struct {
		shape api.Shape
		l     []exhibit
		want  api.Finding
	}{
		{two, []exhibit{oldOne, oldOne, s, s}, find(api.IsMaybe, g, 2, 0, 0, 2)}, // two silent ones may show a newer one
		{two, []exhibit{oldOne, oldOne, s, none}, find(api.IsSure, g, 2, 0, 0, 1)},
		{two, []exhibit{oldOne, oldOne, s, x}, find(api.IsSure, g, 2, 0, 1, 1)}, // what is spoilt stays so
		{two, []exhibit{oldOne, oldOne, s, youngOne}, find(api.IsMaybe, g, 2, 1, 0, 1)},
		{two, []exhibit{oldOne, oldOne, s, longOne}, find(api.IsMaybe, g, 2, 1, 0, 1)}, // newer by its Size
		{two, []exhibit{longOne, longOne, s, oldOne}, find(api.IsSure, g, 2, 1, 0, 1)},
		{two, []exhibit{youngOne, youngOne, s, oldOne}, find(api.IsSure, h, 2, 1, 0, 1)}, // an older one takes no place
		{two, []exhibit{youngOne, youngOne, oldOne, oldOne}, find(api.IsSure, h, 2, 2, 0, 0)},
		{two, []exhibit{oldOne, oldOne, longOne, longOne}, find(api.IsSure, g, 2, 2, 0, 0)},
		{two, []exhibit{oldOne, oldOne, oldOne, s}, find(api.IsSure, g, 3, 0, 0, 1)},
		{two, []exhibit{none, none, none, s}, find(api.IsNone, api.Gen{}, 0, 0, 0, 1)},
		{two, []exhibit{none, none, s, s}, find(api.IsMaybe, api.Gen{}, 0, 0, 0, 2)},
		{two, []exhibit{oldOne, x, x, none}, find(api.IsNone, api.Gen{}, 0, 1, 2, 0)}, // what is spoilt could not say otherwise
		{two, []exhibit{oldOne, youngOne, x, x}, find(api.IsNone, api.Gen{}, 0, 2, 2, 0)},
		{two, []exhibit{none, none, x, s}, find(api.IsNone, api.Gen{}, 0, 0, 1, 1)},
		{two, []exhibit{none, x, x, s}, find(api.IsMaybe, api.Gen{}, 0, 0, 2, 1)}, // unknown
		{two, []exhibit{x, x, x, none}, find(api.IsMaybe, api.Gen{}, 0, 0, 3, 0)},
		{three, []exhibit{oldOne, oldOne, oldOne, youngOne, s, s}, find(api.IsMaybe, g, 3, 1, 0, 2)},
		{three, []exhibit{oldOne, oldOne, oldOne, youngOne, longOne, s}, find(api.IsSure, g, 3, 2, 0, 1)},
		{three, []exhibit{oldOne, oldOne, oldOne, youngOne, youngOne, s}, find(api.IsMaybe, g, 3, 2, 0, 1)},
		{three, []exhibit{oldOne, oldOne, oldOne, x, s, s}, find(api.IsSure, g, 3, 0, 1, 2)},
		{three, []exhibit{oldOne, oldOne, youngOne, youngOne, none, s}, find(api.IsMaybe, api.Gen{}, 0, 4, 0, 1)},
		{three, []exhibit{oldOne, youngOne, longOne, none, none, s}, find(api.IsNone, api.Gen{}, 0, 3, 0, 1)},
		{three, []exhibit{oldOne, youngOne, none, none, s, s}, find(api.IsMaybe, api.Gen{}, 0, 2, 0, 2)},
		{three, []exhibit{none, none, none, s, s, x}, find(api.IsNone, api.Gen{}, 0, 0, 1, 2)},
		{small(), []exhibit{x, none, s}, find(api.IsMaybe, api.Gen{}, 0, 0, 1, 1)},
		{small(), []exhibit{x, x, x}, find(api.IsMaybe, api.Gen{}, 0, 0, 3, 0)},
		{small(), []exhibit{oldOne, oldOne, x}, find(api.IsSure, g, 2, 0, 1, 0)},
		{small(), []exhibit{oldOne, oldOne, nobody}, find(api.IsSure, g, 2, 0, 0, 1)},
		{api.Shape{K: 1, M: 1, Block: 4}, []exhibit{none, s}, find(api.IsMaybe, api.Gen{}, 0, 0, 0, 1)},
		{api.Shape{K: 1, M: 1, Block: 4}, []exhibit{none, x}, find(api.IsNone, api.Gen{}, 0, 0, 1, 0)},
		{api.Shape{K: 1, M: 1, Block: 4}, []exhibit{oldOne, x}, find(api.IsSure, g, 1, 0, 1, 0)},
		{api.Shape{K: 1, M: 1, Block: 4}, []exhibit{oldOne, youngOne}, find(api.IsSure, h, 1, 1, 0, 0)},
		{api.Shape{K: 1, M: 1, Block: 4}, []exhibit{s, s}, find(api.IsMaybe, api.Gen{}, 0, 0, 0, 2)},
	} {
		for turn := range row.l {
			l := slices.Concat(row.l[turn:], row.l[:turn])
			f, err := checkKey(t, func() scene { return gallery(row.shape, l) })
			fatalUnless(t, f == row.want && err == api.OK, "row %d: Key = %+v, %d, not %+v", i, f, err, row.want)
			checkAll(t, func() scene { return gallery(row.shape, l) })
		}
	}
}

// P25.1, P25.2: whatever the places show and answer of one key, in every way in small stores.
func TestWhateverPlacesShow(t *testing.T) {
	met, kinds := map[api.Errno]int{}, map[int]int{}
	for _, x := range []struct {
		shapes []api.Shape
		shows  []exhibit
	}{
		{[]api.Shape{{K: 1, M: 1, Block: 1}}, many()},
		{[]api.Shape{{K: 1, M: 1, Block: 9}, small(), {K: 2, M: 2, Block: 3}, {K: 3, M: 1, Block: 2}}, few()},
		{[]api.Shape{{K: 3, M: 2, Block: 4}, {K: 3, M: 3, Block: 4}}, []exhibit{nothing, oldOne, youngOne, spoiltOne, silentOne}},
	} {
		for _, shape := range x.shapes {
			every(shape.K+shape.M, len(x.shows), func(numbers []int) {
				var l []exhibit
				for _, number := range numbers {
					l = append(l, x.shows[number])
				}
				f, err := checkKey(t, func() scene { return gallery(shape, l) })
				kinds[f.Kind]++
				met[err]++
				_, err = checkAll(t, func() scene { return gallery(shape, l) })
				met[err]++
			})
		}
	}
	wantMet(t, met, api.OK, api.ErrQuorum, api.ErrDown)
	wantMet(t, kinds, 0, api.IsSure, api.IsMaybe, api.IsNone)
}

// P25.1, P25.2: places of great stores and of others show and answer all kinds of things.
func TestPlacesShowMany(t *testing.T) {
	r := source(251)
	met := map[api.Errno]int{}
	great := []api.Shape{{K: 253, M: 1, Block: 1}, {K: 128, M: 127, Block: 2}, {K: 10, M: 10, Block: 2}, {K: 20, M: 3, Block: 7}, {K: 6, M: 6, Block: 1}}
	shows := many()
	for run := range 6000 {
		shape := pick(r, shapes()...)
		if run%60 == 0 {
			shape = pick(r, great...)
		}
		n := shape.K + shape.M
		l := slices.Repeat([]exhibit{pick(r, nothing, oldOne, oldOne, oldOne, longOne)}, n)
		some := pick(r, 0, 1, shape.M-1, shape.M, shape.M+1, shape.K-1, shape.K, r.Intn(n+1))
		one := pick(r, shows...)
		for _, i := range r.Perm(n)[:some] {
			l[i] = one
			if run%3 == 0 {
				l[i] = pick(r, shows...)
			}
		}
		_, err := checkKey(t, func() scene { return gallery(shape, l) })
		met[err]++
		_, err = checkAll(t, func() scene { return gallery(shape, l) })
		met[err]++
	}
	wantMet(t, met, api.OK, api.ErrQuorum, api.ErrDown)
}

// Great stores at the edge: as many newer ones and silent ones as would do, and one fewer.
func TestGreatStoresAtTheEdge(t *testing.T) {
	for _, shape := range []api.Shape{{K: 127, M: 127, Block: 1}, {K: 10, M: 10, Block: 1}} {
		k := shape.K
		for _, newer := range []int{0, 1, k / 2, k - 1} {
			show := func(old, young, hush int) api.Finding {
				l := slices.Concat(slices.Repeat([]exhibit{oldOne}, old), slices.Repeat([]exhibit{youngOne}, young), slices.Repeat([]exhibit{silentOne}, hush))
				l = append(l, slices.Repeat([]exhibit{nothing}, 2*k-len(l))...)
				f, err := gallery(shape, l).one(t)
				wantNumber(t, "Key", err, api.OK)
				all, err := gallery(shape, l).all(t)
				if 2*k-hush < k {
					wantNumber(t, "All", err, api.ErrQuorum)
				} else {
					fatalUnless(t, err == api.OK && slices.Equal(all, []api.Finding{f}), "All = %v, %d, not %v", all, err, f)
				}
				return f
			}
			f := show(k, newer, k-newer)
			fatalUnless(t, f == api.Finding{Key: "a", Kind: api.IsMaybe, Gen: g, Whole: k, Stale: newer, Silent: k - newer}, "%v", f)
			f = show(k, newer, k-newer-1)
			fatalUnless(t, f == api.Finding{Key: "a", Kind: api.IsSure, Gen: g, Whole: k, Stale: newer, Silent: k - newer - 1}, "%v", f)
			f = show(k-1, newer, 1)
			fatalUnless(t, f == api.Finding{Key: "a", Kind: api.IsMaybe, Stale: k - 1 + newer, Silent: 1}, "%v", f)
		}
	}
}

// P25.1: the calls of Key: one Read of each drive that is there, and none beside.
func TestCallsOfKey(t *testing.T) {
	l := []exhibit{oldOne, nobody, nothing, silentOne, spoiltOne}
	s := gallery(api.Shape{K: 3, M: 2, Block: 4}, l)
	_, err := s.one(t)
	wantNumber(t, "Key", err, api.OK)
	for i, d := range s.disks {
		fatalUnless(t, d == nil || d.chart() == asksOne, "the drive %d was asked %s", i, d)
	}
}

// P25.2: the calls of each drive: a List, and in a second round a Read of each wanted key that it told itself, rising, and of no other one.
func TestCallsOfAll(t *testing.T) {
	l := []subject{
		shelf(small(), 0, "b", "a", "ab", "aa"),
		shelf(small(), 1, "ab", "ac"),
		shelf(small(), 2, "x", "b", "aa", "a"),
	}
	l[0].(*spy).names = append(l[0].(*spy).names, "l", "t", "zzz", "o61", "o6", "o616")
	s := sceneOf(small(), l)
	all, err := s.all(t)
	first := api.Gen{Epoch: 1, Count: 1}
	want := []api.Finding{
		{Key: "a", Kind: api.IsSure, Gen: first, Whole: 2},
		{Key: "aa", Kind: api.IsSure, Gen: first, Whole: 2},
		{Key: "ab", Kind: api.IsSure, Gen: first, Whole: 2},
		{Key: "ac", Kind: api.IsNone, Stale: 1},
		{Key: "b", Kind: api.IsSure, Gen: first, Whole: 2},
		{Key: "x", Kind: api.IsNone, Stale: 1},
	}
	fatalUnless(t, slices.Equal(all, want) && err == api.OK, "All = %v, %d", all, err)
	for i, want := range []string{asksTwice("a", "aa", "ab", "b"), asksTwice("ab", "ac"), asksTwice("a", "aa", "b", "x")} {
		fatalUnless(t, l[i].chart() == want, "the drive %d was asked %s, not %s", i, l[i].chart(), want)
	}
	for prefix, wants := range map[string][]string{
		"a":   {asksTwice("a", "aa", "ab"), asksTwice("ab", "ac"), asksTwice("a", "aa")},
		"ab":  {asksTwice("ab"), asksTwice("ab"), asksTwice()},
		"abc": {asksTwice(), asksTwice(), asksTwice()},
		"o61": {asksTwice(), asksTwice(), asksTwice()},
	} {
		for _, d := range l {
			d.(*spy).asked = nil
		}
		s.prefix = prefix
		s.all(t)
		for i, want := range wants {
			fatalUnless(t, l[i].chart() == want, "All %q: the drive %d was asked %s, not %s", prefix, i, l[i].chart(), want)
		}
	}
}

// P25.2: a drive that did not tell its names is in the second round, and is asked nothing there; one that refuses a Read is asked on.
func TestWhoIsAskedInTheSecondRound(t *testing.T) {
	shape := api.Shape{K: 2, M: 2, Block: 4}
	l := []subject{shelf(shape, 0, "a", "b", "c"), shelf(shape, 1, "a", "b", "c"), nil, shelf(shape, 3, "a", "b", "c").fail("a", api.ErrOffline).fail("b", api.ErrMissing)}
	l[1].(*spy).list = api.ErrIO
	s := sceneOf(shape, l)
	all, err := s.all(t)
	want := []api.Finding{
		{Key: "a", Kind: api.IsMaybe, Stale: 1, Silent: 3},
		{Key: "b", Kind: api.IsMaybe, Stale: 1, Silent: 2},
		{Key: "c", Kind: api.IsMaybe, Gen: api.Gen{Epoch: 1, Count: 1}, Whole: 2, Silent: 2},
	}
	fatalUnless(t, slices.Equal(all, want) && err == api.OK, "All = %v, %d", all, err)
	for i, want := range []string{asksTwice("a", "b", "c"), asksTwice(), "", asksTwice("a", "b", "c")} {
		fatalUnless(t, i == 2 || l[i].chart() == want, "the drive %d was asked %s", i, l[i])
	}
	// Also when the power is off, or goes in the midst: the job goes through to its end.
	for _, key := range []string{"a", "b", "c"} {
		l := []subject{shelf(small(), 0, "a", "b", "c"), shelf(small(), 1, "a", "b", "c").fail(key, api.ErrDown), shelf(small(), 2, "c")}
		_, err := sceneOf(small(), l).all(t)
		wantNumber(t, "All", err, api.ErrDown)
		fatalUnless(t, l[0].chart() == asksTwice("a", "b", "c") && l[1].chart() == asksTwice("a", "b", "c") && l[2].chart() == asksTwice("c"), "the drives were asked\n%s", charts(l))
	}
}

// P25.2: there are two rounds, also if no key is wanted.
func TestTwoRoundsOfNothing(t *testing.T) {
	for _, shape := range shapes() {
		s := gallery(shape, slices.Repeat([]exhibit{telling(nothing, "l", "t", "x")}, shape.K+shape.M))
		all, err := s.all(t)
		fatalUnless(t, len(all) == 0 && err == api.OK, "All = %v, %d", all, err)
		for i, d := range s.disks {
			fatalUnless(t, d.chart() == asksTwice(), "the drive %d was asked %s", i, d.chart())
		}
		s = full(shape)
		s.prefix = "b"
		all, err = s.all(t)
		fatalUnless(t, len(all) == 0 && err == api.OK, "All = %v, %d", all, err)
		for i, d := range s.disks {
			fatalUnless(t, d.chart() == asksTwice(), "the drive %d was asked %s", i, d.chart())
		}
	}
}

// A block that is spoilt is told, though the head above it is right: it is Look that is asked, not Glance.
func TestABlockThatIsSpoilt(t *testing.T) {
	set, w := laid(t, "a", "b")
	w[0].Flip("o61", 45, []byte{1})
	b := api.Finding{Key: "b", Kind: api.IsSure, Gen: api.Gen{Epoch: 1, Count: 2}, Whole: 3}
	a := api.Finding{Key: "a", Kind: api.IsSure, Gen: api.Gen{Epoch: 1, Count: 1}, Whole: 2, Spoilt: 1}
	wantAll(t, set, "", []api.Finding{a, b}, api.OK)
	wantKey(t, set, "a", a, api.OK)
	w[1].Flip("o61", 45, []byte{1})
	a = api.Finding{Key: "a", Kind: api.IsMaybe, Stale: 1, Spoilt: 2}
	wantAll(t, set, "", []api.Finding{a, b}, api.OK)
	wantKey(t, set, "a", a, api.OK)
}

// wrongShapes may not be.
func wrongShapes() []api.Shape {
	return []api.Shape{
		{}, {K: 2, M: 0, Block: 4}, {K: 2, M: -1, Block: 4}, {K: 1, M: 2, Block: 4}, {K: 2, M: 1, Block: 0}, {K: 2, M: 1, Block: -1}, {K: 2, M: 1, Block: 65537},
		{K: 128, M: 128, Block: 4}, {K: 255, M: 1, Block: 4}, {K: -1, M: -1, Block: 4}, {K: 0, M: 0, Block: 4},
		{K: math.MaxInt, M: math.MaxInt, Block: 1}, {K: math.MinInt, M: math.MinInt, Block: 1}, {K: math.MaxInt, M: 3, Block: 1}, {K: 2, M: 1, Block: math.MaxInt},
	}
}

// P25.1, P25.2: sets that may not be, of all kinds, ahead of all else that could be wrong: no drive is called.
func TestWrongSets(t *testing.T) {
	try := func(change func(set *api.Set), disks []subject) {
		t.Helper()
		for _, key := range []string{"a", ""} {
			for _, closed := range []bool{false, true} {
				s := sceneOf(small(), disks)
				s.key = key
				s.done = make(chan struct{})
				if closed {
					close(s.done)
				}
				change(s.set)
				fatalUnless(t, !isSet(s.set), "there can be %v", s.set)
				f, err := s.one(t)
				fatalUnless(t, err == api.ErrArg && f == api.Finding{}, "Key of %v = %v, %d", s.set, f, err)
				l, err := s.all(t)
				fatalUnless(t, err == api.ErrArg && len(l) == 0, "All of %v = %v, %d", s.set, l, err)
			}
		}
		for i, d := range disks {
			fatalUnless(t, d.chart() == "", "the drive %d was asked %s", i, d.chart())
		}
	}
	standing := func(n int) []subject { return spies(n, func(i int) *spy { return oldOne(small(), min(i, 2)) }) }
	for _, shape := range wrongShapes() {
		for _, n := range []int{0, 1, 2, 3, 255, 256} {
			try(func(set *api.Set) { set.Shape = shape }, standing(n))
		}
	}
	for _, n := range []int{0, 1, 2, 4, 6, 255, 256} {
		try(func(*api.Set) {}, standing(n))
	}
	for _, epoch := range []int{0, -1, 4294967296, math.MaxInt, math.MinInt} {
		try(func(set *api.Set) { set.Last.Epoch = epoch }, standing(3))
	}
	for _, count := range []int{-1, 4294967296, math.MaxInt, math.MinInt} {
		try(func(set *api.Set) { set.Last.Count = count }, standing(3))
	}
}

// Every shape whose numbers are near their limits, with as many drives, one more and one fewer; none is there.
func TestEveryShape(t *testing.T) {
	none := make([]api.Disk, 600)
	met := map[api.Errno]int{}
	for k := -2; k < 260; k++ {
		for m := -2; m < 260; m++ {
			for _, block := range []int{-1, 0, 1, 65536, 65537} {
				for more := -1; more < 2; more++ {
					shape := api.Shape{K: k, M: m, Block: block}
					set := &api.Set{Disks: none[:max(0, k+m+more)], Shape: shape, Last: api.Gen{Epoch: 1}}
					want, found, no := api.Finding{}, api.ErrArg, api.ErrArg
					if isSet(set) {
						want, found, no = api.Finding{Key: "a", Kind: api.IsMaybe, Silent: k + m}, api.OK, api.ErrQuorum // nobody tells names
					}
					_, err := audit.All(set, nil, "")
					met[err]++
					if err != no {
						t.Fatalf("All of %d drives of %v = %d, not %d", len(set.Disks), shape, err, no)
					}
					if f, err := audit.Key(set, nil, "a"); err != found || f != want {
						t.Fatalf("Key of %d drives of %v = %v, %d, not %v, %d", len(set.Disks), shape, f, err, want, found)
					}
				}
			}
		}
	}
	fatalUnless(t, met[api.ErrQuorum] > 1000 && len(met) == 2, "%v", met)
}

// Of all Lasts that a set may have nothing is asked, and none is used up.
func TestEdgesOfLast(t *testing.T) {
	for _, epoch := range []int{1, 2, 65536, 4294967294, 4294967295} {
		for _, count := range []int{0, 1, 2, 65535, 4294967294, 4294967295} {
			for _, x := range []struct {
				l    []exhibit
				want int
			}{
				{[]exhibit{oldOne, oldOne, oldOne}, api.IsSure},
				{[]exhibit{oldOne, futureOne, futureOne}, api.IsSure},
				{[]exhibit{oldOne, futureOne, youngOne}, api.IsNone},
				{[]exhibit{oldOne, silentOne, youngOne}, api.IsMaybe},
			} {
				anew := func() scene {
					s := gallery(small(), x.l)
					s.set.Last = api.Gen{Epoch: epoch, Count: count}
					return s
				}
				f, err := checkKey(t, anew)
				fatalUnless(t, err == api.OK && f.Kind == x.want, "Key = %v, %d", f, err)
				l, err := checkAll(t, anew)
				fatalUnless(t, err == api.OK && slices.Equal(l, []api.Finding{f}), "All = %v, %d", l, err)
			}
		}
	}
}

// Writings whose numbers are at the ends of what a shard bears: a newer one could be still.
func TestGreatestGenerations(t *testing.T) {
	greatest := api.Gen{Epoch: 4294967295, Count: 4294967295}
	top := stored(greatest, strings.Repeat("x", 4096), asItIs)
	least := stored(api.Gen{Epoch: 1, Count: 1}, "", asItIs)
	one := api.Shape{K: 1, M: 1, Block: 1}
	for _, x := range []struct {
		l    []exhibit
		want api.Finding
	}{
		{[]exhibit{top, silentOne}, api.Finding{Key: "a", Kind: api.IsMaybe, Gen: greatest, Whole: 1, Silent: 1}},
		{[]exhibit{top, least}, api.Finding{Key: "a", Kind: api.IsSure, Gen: greatest, Whole: 1, Stale: 1}},
		{[]exhibit{silentOne, least}, api.Finding{Key: "a", Kind: api.IsMaybe, Gen: api.Gen{Epoch: 1, Count: 1}, Whole: 1, Silent: 1}},
		{[]exhibit{nothing, least}, api.Finding{Key: "a", Kind: api.IsSure, Gen: api.Gen{Epoch: 1, Count: 1}, Whole: 1}},
	} {
		f, err := checkKey(t, func() scene { return gallery(one, x.l) })
		fatalUnless(t, err == api.OK && f == x.want, "Key = %v, %d, not %v", f, err, x.want)
		checkAll(t, func() scene { return gallery(one, x.l) })
	}
}

// P25.1: keys and what are none; these are refused ahead of any round.
func TestKeys(t *testing.T) {
	for _, key := range []string{"a", "\x00", "\xff", "ä", "o61", "t", "l", "/", strings.Repeat("k", 254), strings.Repeat("k", 255)} {
		s := shelves(small(), key, "other")
		s.key = key
		f, err := s.one(t)
		fatalUnless(t, err == api.OK && f == wholeOf(small(), key)[0], "Key %q = %v, %d", key, f, err)
		s.key = "none"
		f, err = s.one(t)
		fatalUnless(t, err == api.OK && f == api.Finding{Key: "none", Kind: api.IsNone}, "Key = %v, %d", f, err)
	}
	for _, key := range []string{"", strings.Repeat("k", 256), strings.Repeat("k", 1024), strings.Repeat("ä", 128), strings.Repeat("\x00", 70000)} {
		for _, done := range []chan struct{}{nil, make(chan struct{}, 1)} {
			s := full(small())
			s.key, s.done = key, done
			if done != nil {
				done <- struct{}{}
			}
			f, err := s.one(t)
			fatalUnless(t, err == api.ErrKey && f == api.Finding{}, "Key of %d bytes = %v, %d", len(key), f, err)
			for i, d := range s.disks {
				fatalUnless(t, d.chart() == "", "the drive %d was asked %s", i, d.chart())
			}
		}
	}
}

// flaw is something for which a Key or an All is refused; a number of 0 says that it is none to that call.
type flaw struct {
	ofKey, ofAll api.Errno
	make         func(s *scene)
}

// flaws are all of them in their order.
func flaws() []flaw {
	return []flaw{
		{api.ErrNil, api.ErrNil, func(s *scene) { s.set = nil }},
		{api.ErrArg, api.ErrArg, func(s *scene) { s.set.Disks = append(s.set.Disks, nil) }},
		{api.ErrKey, api.OK, func(s *scene) { s.key = "" }},
		{api.ErrStopped, api.ErrStopped, func(s *scene) { close(s.done) }},
		{api.OK, api.ErrDown, func(s *scene) { s.disks[2].(*spy).list = api.ErrDown }},
		{api.OK, api.ErrQuorum, func(s *scene) {
			for i := range 2 {
				s.disks[i].(*spy).list = api.ErrIO
			}
		}},
		{api.OK, api.ErrStopped, func(s *scene) {
			done := s.done
			s.disks[1].(*spy).over = func(round int) {
				if round == 1 {
					close(done)
				}
			}
		}},
		{api.ErrDown, api.ErrDown, func(s *scene) {
			for _, d := range s.disks {
				d.(*spy).fail("a", api.ErrDown)
			}
		}},
		{api.OK, api.OK, func(s *scene) {
			for _, d := range s.disks {
				d.(*spy).fail("b", api.ErrIO)
			}
		}},
	}
}

// Of several things that are wrong the first one is answered, whatever stands behind it.
func TestTheOrderOfErrors(t *testing.T) {
	all := flaws()
	for subset := range 1 << len(all) {
		var ofKey, ofAll api.Errno
		anew := func() scene {
			s := shelves(small(), "a", "b")
			s.done = make(chan struct{})
			for i, f := range slices.Backward(all) {
				if subset>>i&1 == 1 {
					f.make(&s)
					if f.ofKey != api.OK {
						ofKey = f.ofKey
					}
					if f.ofAll != api.OK {
						ofAll = f.ofAll
					}
				}
			}
			return s
		}
		_, err := checkKey(t, anew)
		wantNumber(t, fmt.Sprintf("Key with %b", subset), err, ofKey)
		_, err = checkAll(t, anew)
		wantNumber(t, fmt.Sprintf("All with %b", subset), err, ofAll)
	}
}

// What is refused ahead of any round does not look at done: who waits to send on it, waits still.
func TestDoneIsNotLookedAt(t *testing.T) {
	for _, change := range []func(s *scene){
		func(s *scene) { s.set = nil },
		func(s *scene) { s.set.Shape.K = 3 },
		func(s *scene) { s.key = "" },
	} {
		s := full(small())
		s.done = make(chan struct{})
		change(&s)
		ready, sent := make(chan struct{}), make(chan struct{})
		go func() {
			close(ready)
			s.done <- struct{}{}
			close(sent)
		}()
		<-ready
		time.Sleep(2 * time.Millisecond)
		_, err := s.one(t)
		if s.key != "" {
			_, err = s.all(t)
		}
		select {
		case <-sent:
			t.Fatalf("%d: done has been received from", err)
		case <-time.After(time.Millisecond):
		}
		<-s.done
		fatalUnless(t, err != api.OK && err != api.ErrStopped, "%d", err)
	}
}

// P25.2: how many drives must have told their names: K, whichever they are and whatever they tell.
func TestHowManyMustTell(t *testing.T) {
	for _, shape := range shapes() {
		every(shape.K+shape.M, 5, func(ways []int) {
			var count [5]int
			var l []exhibit
			for _, way := range ways {
				count[way]++
				l = append(l, []exhibit{oldOne, nothing, nobody, mute(oldOne, api.ErrMissing), mute(oldOne, api.ErrDown)}[way])
			}
			want, have := api.OK, min(1, count[0])
			switch {
			case count[4] > 0:
				want, have = api.ErrDown, 0
			case count[0]+count[1] < shape.K:
				want, have = api.ErrQuorum, 0
			}
			all, err := gallery(shape, l).all(t)
			fatalUnless(t, err == want && len(all) == have, "%v, %v: All = %v, %d", shape, ways, all, err)
			fatalUnless(t, have == 0 || all[0].Silent == count[2]+count[3] && all[0].Whole+all[0].Stale == count[0], "%v, %v: All = %v", shape, ways, all)
		})
	}
}

// At each drive the List and each Read is refused with each number: ErrDown ends it, whatever the others say; what is missing is nothing, and with all others the place is silent.
func TestEachCallRefused(t *testing.T) {
	for _, shape := range shapes() {
		n := shape.K + shape.M
		for faulty := range n {
			for _, number := range numbers {
				anew := func(change func(s *spy)) func() scene {
					return func() scene {
						s := shelves(shape, "a", "b", "c")
						change(s.disks[faulty].(*spy))
						return s
					}
				}
				want := map[bool]api.Errno{true: api.ErrDown}[number == api.ErrDown]
				l, err := checkAll(t, anew(func(s *spy) { s.list = number }))
				fatalUnless(t, err == want && (len(l) == 3) == (want == api.OK), "All = %v, %d", l, err)
				for _, f := range l {
					fatalUnless(t, f.Silent == map[bool]int{true: 1}[number != api.OK] && f.Whole == n-f.Silent, "%v", f)
				}
				for at, key := range []string{"a", "b", "c"} {
					l, err := checkAll(t, anew(func(s *spy) { s.fail(key, number) }))
					fatalUnless(t, err == want && (len(l) == 3) == (want == api.OK), "All = %v, %d", l, err)
					for i, f := range l {
						fatalUnless(t, f.Silent == map[bool]int{true: 1}[i == at && number != api.OK && number != api.ErrMissing], "%v", f)
					}
				}
				_, err = checkAll(t, anew(func(s *spy) { s.fail("d", number) })) // that one is not read
				wantNumber(t, "All", err, api.OK)
				_, err = checkKey(t, anew(func(s *spy) { s.fail("a", number) }))
				wantNumber(t, "Key", err, want)
				_, err = checkKey(t, anew(func(s *spy) { s.list = number }))
				wantNumber(t, "Key", err, api.OK)
			}
		}
	}
}

// A drive that answers ErrDown ends the round, whatever the others say and however many answered OK.
func TestErrDown(t *testing.T) {
	for _, shape := range shapes() {
		n := shape.K + shape.M
		for down := range n {
			for _, other := range []exhibit{oldOne, nothing, nobody, spoiltOne, mute(oldOne, api.ErrIO), refused(oldOne, api.ErrIO)} {
				l := slices.Repeat([]exhibit{other}, n)
				l[down] = mute(oldOne, api.ErrDown)
				_, err := checkAll(t, func() scene { return gallery(shape, l) })
				wantNumber(t, "All", err, api.ErrDown)
				l[down] = refused(oldOne, api.ErrDown)
				_, err = checkAll(t, func() scene { return gallery(shape, l) })
				fatalUnless(t, (err == api.ErrQuorum) == (shape.K > 1 && (other(shape, 0) == nil || other(shape, 0).list != api.OK)) && (err == api.ErrQuorum || err == api.ErrDown), "All = %d", err)
				_, err = checkKey(t, func() scene { return gallery(shape, l) })
				wantNumber(t, "Key", err, api.ErrDown)
			}
		}
	}
}

// wounds are drives that hold the shards of the keys "a" and "b", each at its place, and other files.
func wounds(shape api.Shape) []subject {
	var l []subject
	for i := range shape.K + shape.M {
		files := []api.File{{Name: "l", Data: []byte("label")}, {Name: "o63", Data: []byte("other")}}
		for name, data := range shelf(shape, i, "a", "b").files {
			files = append(files, api.File{Name: name, Data: data})
		}
		l = append(l, patient{wound.New(drive.Load(10000, files))})
	}
	return l
}

// The power goes at each call of each drive in each round: the others go through to their end, then it is off at all. At a round's end it goes unseen by that round.
func TestThePower(t *testing.T) {
	shape := api.Shape{K: 2, M: 2, Block: 4}
	for struck := range 4 {
		for round := range 4 {
			for call := range 5 {
				anew := func() scene {
					l := wounds(shape)
					l[struck].(patient).Fuse(round, call, 9)
					return sceneOf(shape, l)
				}
				number := func(down bool) api.Errno { return map[bool]api.Errno{true: api.ErrDown}[down] }
				_, err := checkAll(t, anew)
				wantNumber(t, "All", err, number(round == 0 || round == 1 && call < 3))
				_, err = checkKey(t, anew)
				wantNumber(t, "Key", err, number(round == 0 && call == 0))
				s := anew()
				s.all(t)
				for i, d := range s.disks {
					fatalUnless(t, d.(patient).On() == (round > 1), "struck in round %d: the power at the drive %d: %v", round, i, d.(patient).On())
					fatalUnless(t, d.(patient).Pending() == 0 && len(d.(patient).Image()) == 4, "the drive %d was changed", i)
				}
				_, err = s.all(t)
				wantNumber(t, fmt.Sprintf("struck in round %d ahead of the call %d: the next All", round, call), err, number(round < 3 || call < 3))
				s = anew()
				s.one(t)
				_, err = s.one(t)
				wantNumber(t, "the next Key", err, number(round == 0 || round == 1 && call == 0))
			}
		}
	}
}

// The power goes at the first round's end, and no key is wanted: nobody is asked anything in the second round, and so nobody answers ErrDown.
func TestThePowerGoesUnseen(t *testing.T) {
	l := wounds(small())
	l[1].(patient).Fuse(0, 1, 0)
	s := sceneOf(small(), l)
	s.prefix = "x"
	all, err := s.all(t)
	fatalUnless(t, len(all) == 0 && err == api.OK && !l[0].(patient).On(), "All = %v, %d", all, err)
	_, err = s.all(t)
	wantNumber(t, "the next All", err, api.ErrDown)
}

// It is looked whether it is stopped once at the beginning of each round, and never else; what done holds stays.
func TestStopped(t *testing.T) {
	for at := range 3 { // ahead, behind the first round, behind the second one
		for _, way := range []string{"close", "hold"} {
			for _, keys := range [][]string{{"a", "b"}, nil} {
				stop := func(done chan struct{}) {
					if way == "close" {
						close(done)
					} else {
						done <- struct{}{}
					}
				}
				anew := func() scene {
					done := make(chan struct{}, 1)
					s := shelves(small(), keys...)
					s.disks[1].(*spy).over = func(round int) {
						if round == at {
							stop(done)
						}
					}
					if at == 0 {
						stop(done)
					}
					s.done = done
					return s
				}
				_, err := checkAll(t, anew)
				wantNumber(t, "All", err, []api.Errno{api.ErrStopped, api.ErrStopped, api.OK}[at])
				s := anew()
				s.all(t)
				for i, d := range s.disks {
					fatalUnless(t, d.chart() == []string{"", asksOnce, asksTwice(keys...)}[at], "%s behind %d rounds: the drive %d was asked %s", way, at, i, d.chart())
				}
				fatalUnless(t, way == "close" || len(s.done) == 1, "what done holds was taken")
				_, err = checkKey(t, anew)
				wantNumber(t, "Key", err, []api.Errno{api.ErrStopped, api.OK, api.OK}[at])
				s = anew()
				s.one(t)
				for i, d := range s.disks {
					fatalUnless(t, d.chart() == []string{"", asksOne, asksOne}[at], "%s behind %d rounds: the drive %d was asked %s", way, at, i, d.chart())
				}
				fatalUnless(t, way == "close" || at == 2 || len(s.done) == 1, "what done holds was taken")
			}
		}
	}
	set, _ := laid(t, "a")
	f, err := audit.Key(set, fan.Done(true), "a")
	fatalUnless(t, f == api.Finding{} && err == api.ErrStopped, "Key = %v, %d", f, err)
	l, err := audit.All(set, fan.Done(true), "")
	fatalUnless(t, len(l) == 0 && err == api.ErrStopped, "All = %v, %d", l, err)
}

// A stop behind a first round that refuses says nothing.
func TestStoppedBehindARoundThatRefuses(t *testing.T) {
	for _, number := range []api.Errno{api.ErrIO, api.ErrDown} {
		s := gallery(small(), slices.Repeat([]exhibit{mute(oldOne, number)}, 3))
		done := make(chan struct{})
		s.done = done
		s.disks[2].(*spy).over = func(int) { close(done) }
		_, err := s.all(t)
		wantNumber(t, "All", err, map[api.Errno]api.Errno{api.ErrIO: api.ErrQuorum, api.ErrDown: api.ErrDown}[number])
	}
}

// Who is told that a round is over, and that the power is gone, in each round; from place 0 on.
func TestWhoIsStruck(t *testing.T) {
	for struck := range 5 {
		for round := range 4 {
			for _, l := range [][]exhibit{{oldOne, mute(oldOne, api.ErrIO), nothing, nobody, oldOne}, {mute(oldOne, api.ErrIO), oldOne, mute(nothing, api.ErrIO), nobody, oldOne}} {
				anew := func() scene {
					s := gallery(api.Shape{K: 3, M: 2, Block: 4}, l)
					if s.disks[struck] != nil {
						s.disks[struck].(*spy).struck = round
					}
					return s
				}
				checkKey(t, anew)
				checkAll(t, anew)
			}
		}
	}
	s := full(api.Shape{K: 3, M: 2, Block: 4})
	var told []int
	for i, d := range s.disks {
		d.(*spy).over = func(int) { told = append(told, i) }
	}
	_, err := s.all(t)
	wantNumber(t, "All", err, api.OK)
	fatalUnless(t, slices.Equal(told, []int{0, 1, 2, 3, 4, 0, 1, 2, 3, 4}), "the drives were told in the order %v", told)
}

// Names of all kinds are told, in whatever order and however often: the objects' names among them are the wanted keys.
func TestNames(t *testing.T) {
	var any256 []byte
	for i := range 256 {
		any256 = append(any256, byte(i))
	}
	keys := []string{"\x00", "\xff", "o61", "t", "l", "a/b", "ä", string(any256[1:]), string(any256[:255]), "\x00\x00", "\xff\xff"}
	for n := range 16 {
		keys = append(keys, strings.Repeat("k", 1+n*17%255), strings.Repeat("k", 255-n))
	}
	slices.Sort(keys)
	keys = slices.Compact(keys)
	strange := []string{"", "o", "o6", "o616", "O61", "o6G", "o6A", "61", " o61", "o61 ", "o61\n", "t", "l", "tt", nameOf(strings.Repeat("k", 256)), nameOf(""), strings.Repeat("o", 1024), "ä", "\xff"}
	r := source(252)
	for range 30 {
		order := [3][]int{r.Perm(len(keys)), r.Perm(len(keys)), r.Perm(len(keys))}
		anew := func() scene {
			return sceneOf(small(), spies(3, func(i int) *spy {
				s := &spy{names: slices.Clone(strange)}
				for _, k := range order[i] {
					s.lay(keys[k], shelf(small(), i, keys[k]).files[nameOf(keys[k])])
				}
				s.names = append(s.names, s.names[i:]...)
				return s
			}))
		}
		got, err := checkAll(t, anew)
		fatalUnless(t, err == api.OK && slices.Equal(got, wholeOf(small(), keys...)), "All = %v, %d", got, err)
	}
}

// P25.2: prefixes of all kinds: the keys begin with them, not the names.
func TestPrefixes(t *testing.T) {
	long := strings.Repeat("a", 255)
	keys := []string{"\x00", "6", "61", "a", "a\x00", "a/", "a/b", "a0", "aa", "b", "o", "o61", "\xff", "\xff\xff", "ä", long, long[:254]}
	slices.Sort(keys)
	prefixes := append([]string{"", "/", "a//", "\xc3", "\xa4", "A", "o6", "o616", "x", long + "a", strings.Repeat("z", 5000), "ab"}, keys...)
	for _, prefix := range prefixes {
		var want []string
		for _, key := range keys {
			if strings.HasPrefix(key, prefix) {
				want = append(want, key)
			}
		}
		got, err := checkAll(t, func() scene {
			s := shelves(small(), keys...)
			s.prefix = prefix
			return s
		})
		fatalUnless(t, err == api.OK && slices.Equal(got, wholeOf(small(), want...)), "All %q = %v, %d", prefix, got, err)
	}
}

// Several keys at a time, each at some of the places, some of them spoilt, or of another writing, told in whatever order.
func TestSomeKeys(t *testing.T) {
	pool := []string{"a", "b", "a/", "a/b", "a/c", "a/b/c", "//", "/", "aa", "ab", "\x00", "\xff", "k", strings.Repeat("z", 255)}
	met, lengths, kinds := map[api.Errno]int{}, map[int]int{}, map[int]int{}
	for seed := range int64(3000) {
		anew := func() scene {
			r := source(seed)
			shape := pick(r, shapes()...)
			much := pick(r, 2, 4, 20)
			s := sceneOf(shape, spies(shape.K+shape.M, func(i int) *spy {
				if r.Intn(12) == 0 {
					return nil
				}
				s := &spy{}
				for _, at := range r.Perm(len(pool)) {
					if r.Intn(much) == 0 {
						continue
					}
					key := pool[at]
					b := slices.Clone(shelf(shape, i, key).files[nameOf(key)])
					switch r.Intn(30) {
					case 0:
						b[r.Intn(len(b))] ^= 1
					case 1:
						b = b[:r.Intn(len(b))]
					case 2, 3, 4:
						b = formsOf(api.Head{Store: theStore(), Shape: shape, Key: key, Gen: api.Gen{Epoch: 2, Count: 1}}, "of "+key)[i]
					case 5:
						s.fail(key, pick(r, numbers[1:4]...))
					}
					s.lay(key, b)
				}
				switch r.Intn(40) {
				case 0, 1, 2:
					s.list = pick(r, numbers[1:4]...)
				case 3:
					s.list = api.ErrDown
				case 4:
					s.fail(pick(r, pool...), pick(r, numbers...))
				}
				return s
			}))
			s.prefix = pick(r, "", "", "", "a", "a/", "/", "b", "z", "q")
			s.key = pick(r, pool...)
			return s
		}
		l, err := checkAll(t, anew)
		met[err]++
		lengths[len(l)]++
		for _, f := range l {
			kinds[f.Kind]++
		}
		checkKey(t, anew)
	}
	wantMet(t, met, api.OK, api.ErrQuorum, api.ErrDown)
	wantMet(t, kinds, api.IsSure, api.IsMaybe, api.IsNone)
	fatalUnless(t, len(lengths) > 10, "%v", lengths)
}

// The objects of a store that has been used, told by Key and by All as Get tells them.
func TestWhatWasPut(t *testing.T) {
	for _, shape := range append(shapes(), api.Shape{K: 6, M: 5, Block: 7}) {
		set, w := opened(t, shape)
		n := shape.K + shape.M
		for i, key := range []string{"a", "b", "c"} {
			wantNumber(t, "Put", put.Put(set, nil, key, make([]byte, 7*i)), api.OK)
			f, err := audit.Key(set, nil, key)
			want := api.Finding{Key: key, Kind: api.IsSure, Gen: set.Last, Whole: n}
			fatalUnless(t, f == want && err == api.OK, "Key = %v, %d, not %v", f, err, want)
			_, gen, err := get.Get(set, nil, key)
			fatalUnless(t, gen == f.Gen && err == api.OK, "Get = %v, %d", gen, err)
		}
		for i, x := range w {
			fatalUnless(t, x.Pending() == 0 && len(x.Image()) == 4, "the drive %d was changed", i)
		}
		l, err := audit.All(set, nil, "")
		fatalUnless(t, err == api.OK && slices.Equal(keysOf(l), []string{"a", "b", "c"}), "All = %v, %d", l, err)
	}
}

package listing_test

import (
	"fmt"
	"maps"
	"math"
	"slices"
	"strings"
	"testing"
	"time"

	"cairn/api"
	"cairn/drive"
	"cairn/fan"
	"cairn/listing"
	"cairn/opening"
	"cairn/put"
	"cairn/wound"
)

// numbers are answers of a drive; the first is OK.
var numbers = []api.Errno{0, 110, 120, 121, 122, 111, 112, 91, 90, 70, 81, 1, 2, 3, 170, 181, 200, 201, 160, 7, -1, -7, math.MaxInt, math.MinInt}

// opened is a store that was formatted and opened, with its drives at their places.
func opened(t *testing.T, shape api.Shape) (*api.Set, []*wound.Wound) {
	t.Helper()
	var w []*wound.Wound
	var disks []api.Disk
	for range shape.K + shape.M {
		w = append(w, wound.New(drive.New(1<<22)))
		disks = append(disks, w[len(w)-1])
	}
	wantNumber(t, "Format", opening.Format(disks, shape, theStore()), api.OK)
	set, err := opening.Open(disks)
	wantNumber(t, "Open", err, api.OK)
	return set, w
}

// laid is a store of the chapter's examples, in which these objects stand.
func laid(t *testing.T, keys ...string) (*api.Set, []*wound.Wound) {
	t.Helper()
	set, w := opened(t, small())
	for _, key := range keys {
		wantNumber(t, "Put", put.Put(set, nil, key, []byte("of "+key)), api.OK)
	}
	return set, w
}

func wantList(t *testing.T, set *api.Set, prefix string, want []string, no api.Errno) {
	t.Helper()
	keys, err := listing.List(set, nil, prefix)
	fatalUnless(t, slices.Equal(keys, want) && err == no, "List %q = %q, %d, not %q, %d", prefix, keys, err, want, no)
}

func wantPage(t *testing.T, set *api.Set, q api.Query, want api.Page, no api.Errno) {
	t.Helper()
	page, err := listing.Page(set, nil, q)
	fatalUnless(t, samePage(page, want) && err == no, "Page %+v = %+v, %d, not %+v, %d", q, page, err, want, no)
}

// The chapter's examples of List and Page, row by row.
func TestExamples(t *testing.T) {
	set, w := ward(small(), 1000)
	wantList(t, set, "", nil, api.OK)
	for i := range w {
		set, w := ward(small(), 1000)
		w[i].Offline(true)
		wantList(t, set, "", nil, api.OK)
		w[(i+1)%3].Offline(true)
		wantList(t, set, "", nil, api.ErrQuorum)
	}

	set, w = laid(t, "a", "a/b", "a/c", "b")
	wantList(t, set, "a", []string{"a", "a/b", "a/c"}, api.OK)
	wantList(t, set, "a/", []string{"a/b", "a/c"}, api.OK)
	wantList(t, set, "c", nil, api.OK)

	wantPage(t, set, api.Query{Delim: 47, Limit: 10}, api.Page{Keys: []string{"a", "b"}, Groups: []string{"a/"}}, api.OK)
	wantPage(t, set, api.Query{Delim: 47, Limit: 2}, api.Page{Keys: []string{"a"}, Groups: []string{"a/"}, Next: "a/", More: true}, api.OK)
	wantPage(t, set, api.Query{Delim: 47, Limit: 2, After: "a/"}, api.Page{Keys: []string{"b"}}, api.OK)
	wantPage(t, set, api.Query{Prefix: "a/", Delim: 47, Limit: 1}, api.Page{Keys: []string{"a/b"}, Next: "a/b", More: true}, api.OK)
	wantPage(t, set, api.Query{Prefix: "a/", Delim: 47, Limit: 1, After: "a/b"}, api.Page{Keys: []string{"a/c"}}, api.OK)
	for _, x := range w {
		x.Arm(nil)
	}
	for _, q := range []api.Query{{Limit: 0}, {Limit: 1001}, {Limit: 1, Delim: 256}, {Limit: 1, Delim: -2}} {
		wantPage(t, set, q, api.Page{}, api.ErrArg)
	}
	for i, x := range w {
		fatalUnless(t, x.Calls() == 0, "the drive %d was called", i)
	}
}

// exhibit is what a place shows in a store of that shape, at that place; nil: there is no drive.
type exhibit func(shape api.Shape, place int) *spy

// stored shows the shard of a writing under the key "a", whose head is first changed.
func stored(gen api.Gen, data string, change func(h *api.Head)) exhibit {
	return func(shape api.Shape, place int) *spy {
		h := api.Head{Store: theStore(), Shape: shape, Key: "a", Gen: gen}
		change(&h)
		forms := formsOf(h, data)
		return (&spy{}).lay("a", slices.Clone(forms[min(place, len(forms)-1)]))
	}
}

// text is an object with its head.
type text struct {
	head api.Head
	data string
}

var made = map[text][][]byte{}

// formsOf are the bytes of the files of an object, which are made once: a great shape takes its time.
func formsOf(h api.Head, data string) [][]byte {
	if _, is := made[text{h, data}]; !is {
		var forms [][]byte
		for _, s := range shardsOf(h, []byte(data)) {
			forms = append(forms, formOf(s))
		}
		made[text{h, data}] = forms
	}
	return made[text{h, data}]
}

// changed is an exhibit that is changed.
func changed(of exhibit, change func(s *spy)) exhibit {
	return func(shape api.Shape, place int) *spy {
		s := of(shape, place)
		change(s)
		return s
	}
}

// spoiled is an exhibit whose bytes under the key "a" are changed.
func spoiled(of exhibit, change func(b []byte) []byte) exhibit {
	return changed(of, func(s *spy) { s.files["o61"] = change(s.files["o61"]) })
}

// mute is an exhibit whose List answers this number, beside its names.
func mute(of exhibit, number api.Errno) exhibit {
	return changed(of, func(s *spy) { s.list = number })
}

// refused is an exhibit whose Read of "a" answers this number, beside its bytes.
func refused(of exhibit, number api.Errno) exhibit {
	return changed(of, func(s *spy) { s.fail("a", number) })
}

// telling is an exhibit that tells these names, whatever stands there.
func telling(of exhibit, names ...string) exhibit {
	return changed(of, func(s *spy) { s.names = names })
}

func asItIs(*api.Head) {}

func nothing(api.Shape, int) *spy { return &spy{} }

func nobody(api.Shape, int) *spy { return nil }

// The writings that stand there; the last one is newer than the set's Last.
var (
	oldOne    = stored(api.Gen{Epoch: 1, Count: 9}, "hello", asItIs)
	longOne   = stored(api.Gen{Epoch: 1, Count: 9}, "hello!", asItIs)
	youngOne  = stored(api.Gen{Epoch: 2, Count: 1}, "young", asItIs)
	futureOne = stored(api.Gen{Epoch: 9, Count: 9}, "", asItIs)
	spoiltOne = spoiled(oldOne, func(b []byte) []byte { b[20] ^= 1; return b })
	wornOne   = spoiled(oldOne, func(b []byte) []byte { b[len(b)-5] ^= 1; return b }) // its head is right
)

// few are exhibits of each kind that counts, or does not, or ends it.
func few() []exhibit {
	return []exhibit{
		nobody, nothing, oldOne, longOne, youngOne, spoiltOne, wornOne, mute(oldOne, api.ErrIO), mute(oldOne, api.ErrDown),
		refused(oldOne, api.ErrIO), refused(oldOne, api.ErrMissing), refused(oldOne, api.ErrDown), telling(oldOne),
	}
}

// many are exhibits of all kinds.
func many() []exhibit {
	gen := api.Gen{Epoch: 1, Count: 9}
	all := append(few(), futureOne,
		stored(gen, "hello", func(h *api.Head) { h.Store[3] = 1 }),
		stored(gen, "hello", func(h *api.Head) { h.Shape.Block++ }),
		stored(gen, "hello", func(h *api.Head) { h.Shape.K = min(h.Shape.K+1, 255-h.Shape.M) }),
		stored(gen, "hello", func(h *api.Head) { h.Key = "b" }),
		stored(gen, "hello", func(h *api.Head) { h.Key = "aa" }),
		func(shape api.Shape, place int) *spy { return oldOne(shape, (place+1)%(shape.K+shape.M)) },
		spoiled(oldOne, func([]byte) []byte { return []byte{} }),
		spoiled(oldOne, func(b []byte) []byte { return append(b, 0) }),
		spoiled(oldOne, func(b []byte) []byte { return b[:len(b)-1] }),
		spoiled(oldOne, func(b []byte) []byte { return b[1:] }),
		telling(oldOne, "o61", "o61", "o61"),
		telling(oldOne, "o62", "o61", "l", "o60"),
		telling(oldOne, "o6161", "o61"),
		telling(oldOne, "o6", "61", "O61", "o61 ", " o61", "o6A", "o", "", "a", "t", "l"),
		telling(nothing, "o61"),
		telling(mute(oldOne, api.ErrMissing), "o61"),
	)
	for _, number := range numbers {
		all = append(all, refused(oldOne, number), refused(nothing, number), mute(oldOne, number), mute(telling(oldOne), number))
	}
	return all
}

// gallery is a scene of which each place shows what the list says.
func gallery(shape api.Shape, l []exhibit) scene {
	return sceneOf(shape, spies(len(l), func(i int) *spy { return l[i](shape, i) }))
}

// full is a scene in which each place shows the old one.
func full(shape api.Shape) scene {
	return gallery(shape, slices.Repeat([]exhibit{oldOne}, shape.K+shape.M))
}

// shelf is a drive on which stand the shards of these keys, told in this order.
func shelf(shape api.Shape, place int, keys ...string) *spy {
	s := &spy{}
	for _, key := range keys {
		s.lay(key, slices.Clone(formsOf(api.Head{Store: theStore(), Shape: shape, Key: key, Gen: api.Gen{Epoch: 1, Count: 1}}, "of "+key)[place]))
	}
	return s
}

// P22.2: the calls of each drive: a List, and in a second round a Read of each wanted key that it told itself, rising, and of no other one.
func TestCallsInTheirOrder(t *testing.T) {
	l := []subject{
		shelf(small(), 0, "b", "a", "ab", "aa"),
		shelf(small(), 1, "ab", "ac"),
		shelf(small(), 2, "x", "b", "aa", "a"),
	}
	l[0].(*spy).names = append(l[0].(*spy).names, "l", "t", "zzz", "o61", "o6", "o616")
	s := sceneOf(small(), l)
	keys, err := s.list(t)
	fatalUnless(t, slices.Equal(keys, []string{"a", "aa", "ab", "b"}) && err == api.OK, "List = %q, %d", keys, err)
	for i, want := range []string{asksTwice("a", "aa", "ab", "b"), asksTwice("ab", "ac"), asksTwice("a", "aa", "b", "x")} {
		fatalUnless(t, l[i].chart() == want, "the drive %d was asked %s, not %s", i, l[i].chart(), want)
	}
	for prefix, wants := range map[string][]string{
		"a":   {asksTwice("a", "aa", "ab"), asksTwice("ab", "ac"), asksTwice("a", "aa")},
		"ab":  {asksTwice("ab"), asksTwice("ab"), asksTwice()},
		"abc": {asksTwice(), asksTwice(), asksTwice()},
		"o61": {asksTwice(), asksTwice(), asksTwice()},
	} {
		for _, d := range l {
			d.(*spy).asked = nil
		}
		s.query.Prefix = prefix
		s.list(t)
		for i, want := range wants {
			fatalUnless(t, l[i].chart() == want, "List %q: the drive %d was asked %s, not %s", prefix, i, l[i].chart(), want)
		}
	}
}

// P22.2: a drive that did not tell its names is in the second round, and is asked nothing there; one that refuses a Read is asked on.
func TestWhoIsAskedInTheSecondRound(t *testing.T) {
	shape := api.Shape{K: 2, M: 2, Block: 4}
	l := []subject{shelf(shape, 0, "a", "b", "c"), shelf(shape, 1, "a", "b", "c"), nil, shelf(shape, 3, "a", "b", "c").fail("a", api.ErrOffline).fail("b", api.ErrMissing)}
	l[1].(*spy).list = api.ErrIO
	s := sceneOf(shape, l)
	keys, err := s.list(t)
	fatalUnless(t, slices.Equal(keys, []string{"c"}) && err == api.OK, "List = %q, %d", keys, err)
	for i, want := range []string{asksTwice("a", "b", "c"), asksTwice(), "", asksTwice("a", "b", "c")} {
		fatalUnless(t, i == 2 || l[i].chart() == want, "the drive %d was asked %s", i, l[i])
	}
	// Also when the power is off, or goes in the midst: the job goes through to its end.
	for _, key := range []string{"a", "b", "c"} {
		l := []subject{shelf(small(), 0, "a", "b", "c"), shelf(small(), 1, "a", "b", "c").fail(key, api.ErrDown), shelf(small(), 2, "c")}
		_, err := sceneOf(small(), l).list(t)
		wantNumber(t, "List", err, api.ErrDown)
		fatalUnless(t, l[0].chart() == asksTwice("a", "b", "c") && l[1].chart() == asksTwice("a", "b", "c") && l[2].chart() == asksTwice("c"), "the drives were asked\n%s", charts(l))
	}
}

// P22.2: there are two rounds, also if no key is wanted.
func TestTwoRoundsOfNothing(t *testing.T) {
	for _, shape := range shapes() {
		s := gallery(shape, slices.Repeat([]exhibit{telling(nothing, "l", "t", "x")}, shape.K+shape.M))
		_, err := s.list(t)
		wantNumber(t, "List", err, api.OK)
		for i, d := range s.disks {
			fatalUnless(t, d.chart() == asksTwice(), "the drive %d was asked %s", i, d.chart())
		}
		s = full(shape)
		s.query.Prefix = "b"
		_, err = s.page(t)
		wantNumber(t, "Page", err, api.OK)
		for i, d := range s.disks {
			fatalUnless(t, d.chart() == asksTwice(), "the drive %d was asked %s", i, d.chart())
		}
	}
}

// wrongShapes may not be.
func wrongShapes() []api.Shape {
	return []api.Shape{
		{}, {K: 2, M: 0, Block: 4}, {K: 2, M: -1, Block: 4}, {K: 1, M: 2, Block: 4}, {K: 2, M: 1, Block: 0}, {K: 2, M: 1, Block: -1}, {K: 2, M: 1, Block: 65537},
		{K: 128, M: 128, Block: 4}, {K: 255, M: 1, Block: 4}, {K: -1, M: -1, Block: 4}, {K: 0, M: 0, Block: 4},
		{K: math.MaxInt, M: math.MaxInt, Block: 1}, {K: math.MinInt, M: math.MinInt, Block: 1}, {K: math.MaxInt, M: 3, Block: 1}, {K: 2, M: 1, Block: math.MaxInt},
	}
}

// P22.2, P22.3: sets that may not be, of all kinds, ahead of all else that could be wrong: no drive is called.
func TestWrongSets(t *testing.T) {
	try := func(change func(set *api.Set), disks []subject) {
		t.Helper()
		for _, limit := range []int{1, 0} {
			for _, closed := range []bool{false, true} {
				s := sceneOf(small(), disks)
				s.query.Limit = limit
				s.done = make(chan struct{})
				if closed {
					close(s.done)
				}
				change(s.set)
				fatalUnless(t, !isSet(s.set), "there can be %v", s.set)
				keys, err := s.list(t)
				fatalUnless(t, err == api.ErrArg && len(keys) == 0, "List of %v = %q, %d", s.set, keys, err)
				page, err := s.page(t)
				fatalUnless(t, err == api.ErrArg && samePage(page, api.Page{}), "Page of %v = %v, %d", s.set, page, err)
			}
		}
		for i, d := range disks {
			fatalUnless(t, d.chart() == "", "the drive %d was asked %s", i, d.chart())
		}
	}
	standing := func(n int) []subject { return spies(n, func(i int) *spy { return oldOne(small(), min(i, 2)) }) }
	for _, shape := range wrongShapes() {
		for _, n := range []int{0, 1, 2, 3, 255, 256} {
			try(func(set *api.Set) { set.Shape = shape }, standing(n))
		}
	}
	for _, n := range []int{0, 1, 2, 4, 6, 255, 256} {
		try(func(*api.Set) {}, standing(n))
	}
	for _, epoch := range []int{0, -1, 4294967296, math.MaxInt, math.MinInt} {
		try(func(set *api.Set) { set.Last.Epoch = epoch }, standing(3))
	}
	for _, count := range []int{-1, 4294967296, math.MaxInt, math.MinInt} {
		try(func(set *api.Set) { set.Last.Count = count }, standing(3))
	}
}

// Every shape whose numbers are near their limits, with as many drives, one more and one fewer; none is there.
func TestEveryShape(t *testing.T) {
	none := make([]api.Disk, 600)
	met := map[api.Errno]int{}
	for k := -2; k < 260; k++ {
		for m := -2; m < 260; m++ {
			for _, block := range []int{-1, 0, 1, 65536, 65537} {
				for more := -1; more < 2; more++ {
					shape := api.Shape{K: k, M: m, Block: block}
					set := &api.Set{Disks: none[:max(0, k+m+more)], Shape: shape, Last: api.Gen{Epoch: 1}}
					want := api.ErrArg
					if isSet(set) {
						want = api.ErrQuorum // nobody tells names
					}
					_, err := listing.List(set, nil, "")
					met[err]++
					if err != want {
						t.Fatalf("List of %d drives of %v = %d, not %d", len(set.Disks), shape, err, want)
					}
					if _, err := listing.Page(set, nil, api.Query{Limit: 1}); err != want {
						t.Fatalf("Page of %d drives of %v = %d, not %d", len(set.Disks), shape, err, want)
					}
				}
			}
		}
	}
	fatalUnless(t, met[api.ErrQuorum] > 1000 && len(met) == 2, "%v", met)
}

// Of all Lasts that a set may have nothing is asked, and none is used up.
func TestEdgesOfLast(t *testing.T) {
	for _, epoch := range []int{1, 2, 65536, 4294967294, 4294967295} {
		for _, count := range []int{0, 1, 2, 65535, 4294967294, 4294967295} {
			for _, x := range []struct {
				l    []exhibit
				want api.Errno
				keys int
			}{
				{[]exhibit{oldOne, oldOne, oldOne}, api.OK, 1},
				{[]exhibit{oldOne, futureOne, futureOne}, api.OK, 1},
				{[]exhibit{oldOne, futureOne, youngOne}, api.OK, 0},
				{[]exhibit{nobody, mute(oldOne, api.ErrIO), oldOne}, api.ErrQuorum, 0},
			} {
				keys, err := check(t, func() scene {
					s := gallery(small(), x.l)
					s.set.Last = api.Gen{Epoch: epoch, Count: count}
					return s
				})
				fatalUnless(t, err == x.want && len(keys) == x.keys, "List = %q, %d", keys, err)
			}
		}
	}
}

// flaw is something for which a List or a Page is refused.
type flaw struct {
	number api.Errno
	make   func(s *scene)
}

// flaws are all of them in their order.
func flaws() []flaw {
	return []flaw{
		{api.ErrNil, func(s *scene) { s.set = nil }},
		{api.ErrArg, func(s *scene) { s.set.Disks = append(s.set.Disks, nil) }},
		{api.ErrArg, func(s *scene) { s.query.Delim = 256 }}, // of a Page alone
		{api.ErrStopped, func(s *scene) { close(s.done) }},
		{api.ErrDown, func(s *scene) { s.disks[2].(*spy).list = api.ErrDown }},
		{api.ErrQuorum, func(s *scene) {
			for i := range 2 {
				s.disks[i].(*spy).list = api.ErrIO
			}
		}},
		{api.ErrStopped, func(s *scene) {
			done := s.done
			s.disks[1].(*spy).over = func(round int) {
				if round == 1 {
					close(done)
				}
			}
		}},
		{api.ErrDown, func(s *scene) {
			for _, d := range s.disks {
				d.(*spy).fail("a", api.ErrDown)
			}
		}},
		{api.OK, func(s *scene) {
			for _, d := range s.disks {
				d.(*spy).fail("b", api.ErrIO)
			}
		}},
	}
}

// Of several things that are wrong the first one is answered, whatever stands behind it.
func TestTheOrderOfErrors(t *testing.T) {
	all := flaws()
	for subset := range 1 << len(all) {
		first := [2]api.Errno{}
		anew := func() scene {
			s := sceneOf(small(), spies(3, func(i int) *spy { return shelf(small(), i, "a", "b") }))
			s.done = make(chan struct{})
			for i, f := range slices.Backward(all) {
				if subset>>i&1 == 1 {
					f.make(&s)
					first[1] = f.number
					if i != 2 {
						first[0] = f.number
					}
				}
			}
			return s
		}
		_, err := check(t, anew)
		wantNumber(t, fmt.Sprintf("List with %b", subset), err, first[0])
		_, err = anew().page(t)
		wantNumber(t, fmt.Sprintf("Page with %b", subset), err, first[1])
	}
}

// What is refused ahead of any round does not look at done: who waits to send on it, waits still.
func TestDoneIsNotLookedAt(t *testing.T) {
	for _, change := range []func(s *scene){
		func(s *scene) { s.set = nil },
		func(s *scene) { s.set.Shape.K = 3 },
		func(s *scene) { s.query.Limit = 0 },
	} {
		s := full(small())
		s.done = make(chan struct{})
		change(&s)
		ready, sent := make(chan struct{}), make(chan struct{})
		go func() {
			close(ready)
			s.done <- struct{}{}
			close(sent)
		}()
		<-ready
		time.Sleep(2 * time.Millisecond)
		_, err := s.page(t)
		if s.query.Limit > 0 {
			_, err = s.list(t)
		}
		select {
		case <-sent:
			t.Fatalf("%d: done has been received from", err)
		case <-time.After(time.Millisecond):
		}
		<-s.done
		fatalUnless(t, err != api.OK && err != api.ErrStopped, "%d", err)
	}
}

// P22.2: whatever the places show and answer of one key, in every way in small stores.
func TestWhateverPlacesShow(t *testing.T) {
	met := map[api.Errno]int{}
	some := 0
	for _, x := range []struct {
		shapes []api.Shape
		shows  []exhibit
	}{
		{[]api.Shape{{K: 1, M: 1, Block: 1}}, many()},
		{[]api.Shape{{K: 1, M: 1, Block: 9}, small(), {K: 2, M: 2, Block: 3}, {K: 3, M: 1, Block: 2}}, few()},
	} {
		for _, shape := range x.shapes {
			every(shape.K+shape.M, len(x.shows), func(numbers []int) {
				var l []exhibit
				for _, number := range numbers {
					l = append(l, x.shows[number])
				}
				keys, err := check(t, func() scene { return gallery(shape, l) })
				met[err]++
				some += len(keys)
			})
		}
	}
	wantMet(t, met, api.OK, api.ErrQuorum, api.ErrDown)
	fatalUnless(t, some > 1000 && some < met[api.OK]-1000, "%d keys", some)
}

// P22.2: places of great stores and of others show and answer all kinds of things.
func TestPlacesShowMany(t *testing.T) {
	r := source(225)
	met := map[api.Errno]int{}
	great := []api.Shape{{K: 253, M: 1, Block: 1}, {K: 128, M: 127, Block: 2}, {K: 10, M: 10, Block: 2}, {K: 20, M: 3, Block: 7}}
	shows := many()
	for run := range 6000 {
		shape := pick(r, shapes()...)
		if run%80 == 0 {
			shape = pick(r, great...)
		}
		n := shape.K + shape.M
		l := slices.Repeat([]exhibit{pick(r, nothing, oldOne, oldOne, oldOne, longOne)}, n)
		some := pick(r, 0, 1, shape.M-1, shape.M, shape.M+1, shape.K-1, shape.K, r.Intn(n+1))
		one := pick(r, shows...)
		for _, i := range r.Perm(n)[:some] {
			l[i] = one
			if run%3 == 0 {
				l[i] = pick(r, shows...)
			}
		}
		_, err := check(t, func() scene { return gallery(shape, l) })
		met[err]++
	}
	wantMet(t, met, api.OK, api.ErrQuorum, api.ErrDown)
}

// P22.2: the edges of what is judged, in every small shape: K - 1 and K shards, at whatever places the others show or are silent; also where so many are silent that a key without a value is unknown.
func TestEdgesOfTheJudgement(t *testing.T) {
	for _, shape := range shapes() {
		n := shape.K + shape.M
		for shards := range n + 1 {
			for _, other := range []exhibit{nothing, refused(oldOne, api.ErrIO), refused(oldOne, api.ErrMissing), spoiltOne, telling(oldOne), longOne, youngOne} {
				l := slices.Concat(slices.Repeat([]exhibit{oldOne}, shards), slices.Repeat([]exhibit{other}, n-shards))
				if shards%2 == 1 {
					slices.Reverse(l)
				}
				_, counts := gen(other)
				want := shards >= shape.K || counts && n-shards >= shape.K
				keys, err := gallery(shape, l).list(t)
				fatalUnless(t, err == api.OK && slices.Equal(keys, []string{"a"}[:map[bool]int{true: 1}[want]]), "%v, %d shards: List = %q, %d", shape, shards, keys, err)
			}
		}
	}
}

// gen is the generation of what an exhibit shows, and whether it counts.
func gen(of exhibit) (api.Gen, bool) {
	s := of(small(), 0)
	h, is := sceneOf(small(), nil).headOf(s.files["o61"], "a", 0)
	return h.Gen, is && s.reads["o61"] == api.OK && len(s.names) > 0
}

// P22.2: how many drives must have told their names: K, whichever they are and whatever they tell.
func TestHowManyMustTell(t *testing.T) {
	for _, shape := range shapes() {
		every(shape.K+shape.M, 5, func(ways []int) {
			var count [5]int
			var l []exhibit
			for _, way := range ways {
				count[way]++
				l = append(l, []exhibit{oldOne, nothing, nobody, mute(oldOne, api.ErrMissing), mute(oldOne, api.ErrDown)}[way])
			}
			want, have := api.OK, 0
			switch {
			case count[4] > 0:
				want = api.ErrDown
			case count[0]+count[1] < shape.K:
				want = api.ErrQuorum
			case count[0] >= shape.K:
				have = 1
			}
			keys, err := gallery(shape, l).list(t)
			fatalUnless(t, err == want && len(keys) == have, "%v, %v: List = %q, %d", shape, ways, keys, err)
		})
	}
}

// P22.2: at each drive the List and each Read is refused with each number: ErrDown ends it, whatever the others say; all others are none of the K that must tell, or show.
func TestEachCallRefused(t *testing.T) {
	for _, shape := range shapes() {
		n := shape.K + shape.M
		for faulty := range n {
			for _, number := range numbers {
				anew := func(change func(s *spy)) func() scene {
					return func() scene {
						l := spies(n, func(i int) *spy { return shelf(shape, i, "a", "b", "c") })
						change(l[faulty].(*spy))
						return sceneOf(shape, l)
					}
				}
				want := map[bool]api.Errno{true: api.ErrDown}[number == api.ErrDown]
				keys, err := check(t, anew(func(s *spy) { s.list = number }))
				fatalUnless(t, err == want && (len(keys) == 3) == (want == api.OK), "List = %q, %d", keys, err)
				for _, key := range []string{"a", "b", "c"} {
					keys, err := check(t, anew(func(s *spy) { s.fail(key, number) }))
					fatalUnless(t, err == want && (len(keys) == 3) == (want == api.OK), "List = %q, %d", keys, err)
				}
				_, err = check(t, anew(func(s *spy) { s.fail("d", number) })) // that one is not read
				wantNumber(t, "List", err, api.OK)
			}
		}
	}
}

// P22.2: a drive that answers ErrDown ends the round, whatever the others say and however many answered OK.
func TestErrDown(t *testing.T) {
	for _, shape := range shapes() {
		n := shape.K + shape.M
		for down := range n {
			for _, other := range []exhibit{oldOne, nothing, nobody, spoiltOne, mute(oldOne, api.ErrIO), refused(oldOne, api.ErrIO)} {
				l := slices.Repeat([]exhibit{other}, n)
				l[down] = mute(oldOne, api.ErrDown)
				_, err := check(t, func() scene { return gallery(shape, l) })
				wantNumber(t, "List", err, api.ErrDown)
				l[down] = refused(oldOne, api.ErrDown)
				_, err = check(t, func() scene { return gallery(shape, l) })
				fatalUnless(t, (err == api.ErrQuorum) == (shape.K > 1 && (other(shape, 0) == nil || other(shape, 0).list != api.OK)) && (err == api.ErrQuorum || err == api.ErrDown), "List = %d", err)
			}
		}
	}
}

// wounds are drives that hold the shards of the keys "a" and "b", each at its place, and other files.
func wounds(shape api.Shape) []subject {
	var l []subject
	for i := range shape.K + shape.M {
		files := []api.File{{Name: "l", Data: []byte("label")}, {Name: "o63", Data: []byte("other")}}
		for name, data := range shelf(shape, i, "a", "b").files {
			files = append(files, api.File{Name: name, Data: data})
		}
		l = append(l, patient{wound.New(drive.Load(10000, files))})
	}
	return l
}

// The power goes at each call of each drive in each round: the others go through to their end, then it is off at all. At a round's end it goes unseen by that round.
func TestThePower(t *testing.T) {
	shape := api.Shape{K: 2, M: 2, Block: 4}
	for struck := range 4 {
		for round := range 4 {
			for call := range 5 {
				anew := func() scene {
					l := wounds(shape)
					l[struck].(patient).Fuse(round, call, 9)
					return sceneOf(shape, l)
				}
				want := api.OK
				if round == 0 || round == 1 && call < 3 {
					want = api.ErrDown
				}
				_, err := check(t, anew)
				wantNumber(t, "List", err, want)
				s := anew()
				s.list(t)
				for i, d := range s.disks {
					fatalUnless(t, d.(patient).On() == (round > 1), "struck in round %d: the power at the drive %d: %v", round, i, d.(patient).On())
					fatalUnless(t, d.(patient).Pending() == 0 && len(d.(patient).Image()) == 4, "the drive %d was changed", i)
				}
				want = api.OK
				if round < 3 || call < 3 {
					want = api.ErrDown
				}
				_, err = s.list(t)
				wantNumber(t, fmt.Sprintf("struck in round %d ahead of the call %d: the next List", round, call), err, want)
			}
		}
	}
}

// The power goes at the first round's end, and no key is wanted: nobody is asked anything in the second round, and so nobody answers ErrDown.
func TestThePowerGoesUnseen(t *testing.T) {
	l := wounds(small())
	l[1].(patient).Fuse(0, 1, 0)
	s := sceneOf(small(), l)
	s.query.Prefix = "x"
	keys, err := s.list(t)
	fatalUnless(t, len(keys) == 0 && err == api.OK && !l[0].(patient).On(), "List = %q, %d", keys, err)
	_, err = s.list(t)
	wantNumber(t, "the next List", err, api.ErrDown)
}

// It is looked whether it is stopped once at the beginning of each round, and never else; what done holds stays.
func TestStopped(t *testing.T) {
	for at := range 3 { // ahead, behind the first round, behind the second one
		for _, way := range []string{"close", "hold"} {
			for _, keys := range [][]string{{"a", "b"}, nil} {
				stop := func(done chan struct{}) {
					if way == "close" {
						close(done)
					} else {
						done <- struct{}{}
					}
				}
				anew := func() scene {
					done := make(chan struct{}, 1)
					s := sceneOf(small(), spies(3, func(i int) *spy { return shelf(small(), i, keys...) }))
					s.disks[1].(*spy).over = func(round int) {
						if round == at {
							stop(done)
						}
					}
					if at == 0 {
						stop(done)
					}
					s.done = done
					return s
				}
				want := api.ErrStopped
				if at == 2 {
					want = api.OK
				}
				_, err := check(t, anew)
				wantNumber(t, "List", err, want)
				s := anew()
				_, err = s.list(t)
				wantNumber(t, "List", err, want)
				for i, d := range s.disks {
					fatalUnless(t, d.chart() == []string{"", asksOnce, asksTwice(keys...)}[at], "%s behind %d rounds: the drive %d was asked %s", way, at, i, d.chart())
				}
				fatalUnless(t, way == "close" || len(s.done) == 1, "what done holds was taken")
			}
		}
	}
	set, _ := laid(t, "a")
	_, err := listing.List(set, fan.Done(true), "")
	wantNumber(t, "List", err, api.ErrStopped)
	_, err = listing.Page(set, fan.Done(true), api.Query{Limit: 1})
	wantNumber(t, "Page", err, api.ErrStopped)
}

// A stop behind a first round that refuses says nothing.
func TestStoppedBehindARoundThatRefuses(t *testing.T) {
	for _, number := range []api.Errno{api.ErrIO, api.ErrDown} {
		s := gallery(small(), slices.Repeat([]exhibit{mute(oldOne, number)}, 3))
		done := make(chan struct{})
		s.done = done
		s.disks[2].(*spy).over = func(int) { close(done) }
		_, err := s.list(t)
		wantNumber(t, "List", err, map[api.Errno]api.Errno{api.ErrIO: api.ErrQuorum, api.ErrDown: api.ErrDown}[number])
	}
}

// Who is told that a round is over, and that the power is gone, in each round.
func TestWhoIsStruck(t *testing.T) {
	for struck := range 5 {
		for round := range 4 {
			for _, l := range [][]exhibit{{oldOne, mute(oldOne, api.ErrIO), nothing, nobody, oldOne}, {mute(oldOne, api.ErrIO), oldOne, mute(nothing, api.ErrIO), nobody, oldOne}} {
				check(t, func() scene {
					s := gallery(api.Shape{K: 3, M: 2, Block: 4}, l)
					if s.disks[struck] != nil {
						s.disks[struck].(*spy).struck = round
					}
					return s
				})
			}
		}
	}
}

// The end of each round is told from place 0 on.
func TestWhoIsToldFirst(t *testing.T) {
	s := full(api.Shape{K: 3, M: 2, Block: 4})
	var told []int
	for i, d := range s.disks {
		d.(*spy).over = func(int) { told = append(told, i) }
	}
	_, err := s.list(t)
	wantNumber(t, "List", err, api.OK)
	fatalUnless(t, slices.Equal(told, []int{0, 1, 2, 3, 4, 0, 1, 2, 3, 4}), "the drives were told in the order %v", told)
}

// Names of all kinds are told, in whatever order and however often: the objects' names among them are the wanted keys.
func TestNames(t *testing.T) {
	var any256 []byte
	for i := range 256 {
		any256 = append(any256, byte(i))
	}
	keys := []string{"\x00", "\xff", "o61", "t", "l", "a/b", "ä", string(any256[1:]), string(any256[:255]), "\x00\x00", "\xff\xff"}
	for n := range 16 {
		keys = append(keys, strings.Repeat("k", 1+n*17%255), strings.Repeat("k", 255-n))
	}
	slices.Sort(keys)
	keys = slices.Compact(keys)
	strange := []string{"", "o", "o6", "o616", "O61", "o6G", "o6A", "61", " o61", "o61 ", "o61\n", "t", "l", "tt", nameOf(strings.Repeat("k", 256)), nameOf(""), strings.Repeat("o", 1024), "ä", "\xff"}
	r := source(226)
	for range 30 {
		order := [3][]int{r.Perm(len(keys)), r.Perm(len(keys)), r.Perm(len(keys))}
		anew := func() scene {
			return sceneOf(small(), spies(3, func(i int) *spy {
				s := &spy{names: slices.Clone(strange)}
				for _, k := range order[i] {
					s.lay(keys[k], shelf(small(), i, keys[k]).files[nameOf(keys[k])])
				}
				s.names = append(s.names, s.names[i:]...)
				return s
			}))
		}
		got, err := check(t, anew)
		fatalUnless(t, err == api.OK && slices.Equal(got, keys), "List = %q, %d", got, err)
	}
}

// P22.2: prefixes of all kinds: the keys begin with them, not the names.
func TestPrefixes(t *testing.T) {
	long := strings.Repeat("a", 255)
	keys := []string{"\x00", "6", "61", "a", "a\x00", "a/", "a/b", "a0", "aa", "b", "o", "o61", "\xff", "\xff\xff", "ä", long, long[:254]}
	slices.Sort(keys)
	prefixes := append([]string{"", "/", "a//", "\xc3", "\xa4", "A", "o6", "o616", "x", long + "a", strings.Repeat("z", 5000), "ab"}, keys...)
	anew := func(prefix string) func() scene {
		return func() scene {
			s := sceneOf(small(), spies(3, func(i int) *spy { return shelf(small(), i, keys...) }))
			s.query.Prefix = prefix
			return s
		}
	}
	for _, prefix := range prefixes {
		var want []string
		for _, key := range keys {
			if strings.HasPrefix(key, prefix) {
				want = append(want, key)
			}
		}
		got, err := check(t, anew(prefix))
		fatalUnless(t, err == api.OK && slices.Equal(got, want), "List %q = %q, %d", prefix, got, err)
	}
}

// Several keys at a time, each at some of the places, some of them spoilt, or of another writing, told in whatever order.
func TestSomeKeys(t *testing.T) {
	pool := []string{"a", "b", "a/", "a/b", "a/c", "a/b/c", "//", "/", "aa", "ab", "\x00", "\xff", "k", strings.Repeat("z", 255)}
	met, lengths := map[api.Errno]int{}, map[int]int{}
	for seed := range int64(3000) {
		anew := func() scene {
			r := source(seed)
			shape := pick(r, shapes()...)
			much := pick(r, 2, 4, 20)
			s := sceneOf(shape, spies(shape.K+shape.M, func(i int) *spy {
				if r.Intn(12) == 0 {
					return nil
				}
				s := &spy{}
				for _, at := range r.Perm(len(pool)) {
					if r.Intn(much) == 0 {
						continue
					}
					key := pool[at]
					b := slices.Clone(shelf(shape, i, key).files[nameOf(key)])
					switch r.Intn(30) {
					case 0:
						b[r.Intn(len(b))] ^= 1
					case 1:
						b = b[:r.Intn(len(b))]
					case 2:
						b = formsOf(api.Head{Store: theStore(), Shape: shape, Key: key, Gen: api.Gen{Epoch: 2, Count: 1}}, "of "+key)[i]
					case 3:
						s.fail(key, pick(r, numbers[1:5]...))
					case 4:
						s.fail(key, pick(r, numbers...))
					}
					s.lay(key, b)
				}
				if r.Intn(12) == 0 {
					s.list = pick(r, numbers...)
				}
				return s
			}))
			s.query = api.Query{Prefix: pick(r, "", "", "", "a", "a/", "/", "b", "z", "q"), After: pick(r, append(pool, "", "", "", "", "a0")...), Delim: pick[int](r, -1, '/', '/', 'a', 0, 255), Limit: pick(r, 1, 2, 3, 5, 1000)}
			return s
		}
		keys, err := check(t, anew)
		met[err]++
		lengths[len(keys)]++
	}
	wantMet(t, met, api.OK, api.ErrQuorum, api.ErrDown)
	fatalUnless(t, len(lengths) > 10, "%v", lengths)
}

// The files of a scene are their own: what one check does to them is not seen in another one.
func TestScenesAreApart(t *testing.T) {
	a, b := full(small()), full(small())
	clear(a.disks[0].(*spy).files["o61"])
	fatalUnless(t, !maps.EqualFunc(a.disks[0].(*spy).files, b.disks[0].(*spy).files, func(x, y []byte) bool { return slices.Equal(x, y) }), "they share their files")
}

// Wounds with plans, offline, with fuses, and on which this and that stands: List and Page do to them what the words do, and answer the same.
func TestSomeWounds(t *testing.T) {
	met := map[api.Errno]int{}
	for seed := range int64(3000) {
		_, err := check(t, func() scene { return someWorld(seed) })
		met[err]++
	}
	wantMet(t, met, api.OK, api.ErrQuorum, api.ErrDown)
}

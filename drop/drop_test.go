package drop_test

import (
	"fmt"
	"maps"
	"math"
	"slices"
	"strings"
	"testing"
	"time"

	"cairn/api"
	"cairn/drive"
	"cairn/drop"
	"cairn/fan"
	"cairn/get"
	"cairn/opening"
	"cairn/put"
	"cairn/wound"
)

// numbers are answers of a drive; the first is OK.
var numbers = []api.Errno{0, 110, 120, 121, 122, 111, 112, 91, 90, 70, 81, 1, 2, 3, 170, 181, 200, 201, 160, 7, -1, -7, math.MaxInt, math.MinInt}

// wantGet wants these bytes and this number.
func wantGet(t *testing.T, set *api.Set, key, want string, no api.Errno) {
	t.Helper()
	data, _, err := get.Get(set, nil, key)
	fatalUnless(t, string(data) == want && err == no, "Get %q = %q, %d, not %q, %d", key, data, err, want, no)
}

// opened is a store that was formatted and opened, with its drives at their places.
func opened(t *testing.T, shape api.Shape) (*api.Set, []*wound.Wound) {
	t.Helper()
	var w []*wound.Wound
	var disks []api.Disk
	for range shape.K + shape.M {
		w = append(w, wound.New(drive.New(1<<20)))
		disks = append(disks, w[len(w)-1])
	}
	wantNumber(t, "Format", opening.Format(disks, shape, theStore()), api.OK)
	set, err := opening.Open(disks)
	wantNumber(t, "Open", err, api.OK)
	return set, w
}

// laid is the store of the chapter's examples.
func laid(t *testing.T) (*api.Set, []*wound.Wound) {
	t.Helper()
	set, w := opened(t, small())
	wantNumber(t, "Put", put.Put(set, nil, "a", []byte("hello")), api.OK)
	return set, w
}

// The chapter's examples, row by row.
func TestExamples(t *testing.T) {
	set, _ := laid(t)
	wantNumber(t, "Delete", drop.Delete(set, nil, "a"), api.OK)
	wantNumber(t, "Delete", drop.Delete(set, nil, "a"), api.ErrNotFound)

	set, w := laid(t)
	for _, x := range w {
		x.Arm(nil)
	}
	wantNumber(t, "Delete", drop.Delete(set, nil, ""), api.ErrKey)
	wantNumber(t, "Delete", drop.Delete(nil, nil, "a"), api.ErrNil)
	for i, x := range w {
		fatalUnless(t, x.Calls() == 0, "the drive %d was called", i)
	}

	for i := range 3 {
		set, w := laid(t)
		w[i].Offline(true)
		wantNumber(t, "Delete with a drive offline", drop.Delete(set, nil, "a"), api.ErrQuorum)
		wantGet(t, set, "a", "", api.ErrNotFound)
		w[i].Offline(false)
		wantGet(t, set, "a", "", api.ErrNotFound)

		set, w = laid(t)
		w[i].Offline(true)
		w[(i+1)%3].Offline(true)
		wantNumber(t, "Delete with two drives offline", drop.Delete(set, nil, "a"), api.ErrQuorum)
		w[i].Offline(false)
		w[(i+1)%3].Offline(false)
		wantGet(t, set, "a", "hello", api.OK)
		v, _, _ := get.Look(set, nil, "a")
		fatalUnless(t, len(v.Places) == 3, "%v", v)
	}

	set, _ = laid(t)
	wantNumber(t, "Delete, done closed", drop.Delete(set, fan.Done(true), "a"), api.ErrStopped)
	wantGet(t, set, "a", "hello", api.OK)
}

// exhibit is what a place shows of the key "a" in a store of that shape, at that place; nil: there is no drive.
type exhibit func(shape api.Shape, place int) *spy

// stored shows the shard of a writing, whose head is first changed.
func stored(gen api.Gen, data string, change func(h *api.Head)) exhibit {
	return func(shape api.Shape, place int) *spy {
		h := api.Head{Store: theStore(), Shape: shape, Key: "a", Gen: gen}
		change(&h)
		forms := formsOf(h, data)
		return &spy{bytes: slices.Clone(forms[min(place, len(forms)-1)])}
	}
}

// text is an object with its head.
type text struct {
	head api.Head
	data string
}

var made = map[text][][]byte{}

// formsOf are the bytes of the files of an object, which are made once: a great shape takes its time.
func formsOf(h api.Head, data string) [][]byte {
	if _, is := made[text{h, data}]; !is {
		var forms [][]byte
		for _, s := range shardsOf(h, []byte(data)) {
			forms = append(forms, formOf(s))
		}
		made[text{h, data}] = forms
	}
	return made[text{h, data}]
}

// spoiled is an exhibit whose bytes are changed.
func spoiled(of exhibit, change func(b []byte) []byte) exhibit {
	return func(shape api.Shape, place int) *spy {
		s := of(shape, place)
		s.bytes = change(s.bytes)
		return s
	}
}

// The calls of a drive in a Delete.
const (
	theRead = iota
	theRemove
	theSyncDir
)

// refused is an exhibit one of whose calls answers this number; a Read beside its bytes.
func refused(of exhibit, call int, number api.Errno) exhibit {
	return func(shape api.Shape, place int) *spy {
		s := of(shape, place)
		s.errs = maps.Clone(s.errs)
		s.fail(call, number)
		return s
	}
}

func asItIs(*api.Head) {}

func nothing(api.Shape, int) *spy { return &spy{} }

func nobody(api.Shape, int) *spy { return nil }

// The writings that stand there; the last one is newer than the set's Last.
var (
	oldOne    = stored(api.Gen{Epoch: 1, Count: 9}, "hello", asItIs)
	longOne   = stored(api.Gen{Epoch: 1, Count: 9}, "hello!", asItIs)
	youngOne  = stored(api.Gen{Epoch: 2, Count: 1}, "young", asItIs)
	futureOne = stored(api.Gen{Epoch: 9, Count: 9}, "", asItIs)
	spoiltOne = spoiled(oldOne, func(b []byte) []byte { return b[1:] })
)

// few are exhibits of each kind that a Judge tells apart, and drives that refuse to take away.
func few() []exhibit {
	return []exhibit{
		nobody, nothing, oldOne, longOne, youngOne, spoiltOne, refused(oldOne, theRead, api.ErrIO), refused(oldOne, theRead, api.ErrDown),
		refused(oldOne, theRemove, api.ErrIO), refused(oldOne, theSyncDir, api.ErrMissing), refused(nothing, theSyncDir, api.ErrIO), refused(oldOne, theSyncDir, api.ErrDown),
	}
}

// many are exhibits of all kinds.
func many() []exhibit {
	gen := api.Gen{Epoch: 1, Count: 9}
	all := append(few(), futureOne,
		stored(gen, "hello", func(h *api.Head) { h.Store[3] = 1 }),
		stored(gen, "hello", func(h *api.Head) { h.Shape.Block++ }),
		stored(gen, "hello", func(h *api.Head) { h.Shape.K = min(h.Shape.K+1, 255-h.Shape.M) }),
		stored(gen, "hello", func(h *api.Head) { h.Key = "b" }),
		stored(gen, "hello", func(h *api.Head) { h.Key = "aa" }),
		func(shape api.Shape, place int) *spy { return oldOne(shape, (place+1)%(shape.K+shape.M)) },
		spoiled(oldOne, func([]byte) []byte { return []byte{} }),
		spoiled(oldOne, func(b []byte) []byte { return append(b, 0) }),
		spoiled(oldOne, func(b []byte) []byte { b[len(b)-5] ^= 1; return b }),
		spoiled(oldOne, func(b []byte) []byte { b[20] ^= 1; return b }),
	)
	for _, number := range numbers {
		all = append(all, refused(oldOne, theRead, number), refused(nothing, theRead, number))
		all = append(all, refused(oldOne, theRemove, number), refused(oldOne, theSyncDir, number))
	}
	return all
}

// gallery is a scene of which each place shows what the list says.
func gallery(shape api.Shape, l []exhibit) scene {
	return sceneOf(shape, spies(len(l), func(i int) *spy { return l[i](shape, i) }), "a")
}

// full is a scene in which each place shows the old one.
func full(shape api.Shape) scene {
	return gallery(shape, slices.Repeat([]exhibit{oldOne}, shape.K+shape.M))
}

// P21.1: the calls of each drive: a Read, and in a second round what layer 14's Drop does, also where the place shows nothing or something else than the value.
func TestCallsInTheirOrder(t *testing.T) {
	l := []exhibit{youngOne, nothing, spoiltOne, youngOne, nobody, oldOne, youngOne, refused(nothing, theRead, api.ErrIO), youngOne, youngOne}
	s := gallery(api.Shape{K: 5, M: 5, Block: 4}, l)
	wantNumber(t, "Delete", s.delete(t), api.OK)
	for i, d := range s.disks {
		fatalUnless(t, i == 4 && d == nil || d.chart() == asksTwice, "the drive %d was asked %s", i, d)
		fatalUnless(t, d == nil || d.(*spy).bytes == nil, "the drive %d has %v still", i, d)
	}
	for _, x := range []struct {
		missing exhibit
		want    string
	}{
		{refused(oldOne, theRemove, api.ErrMissing), asksTwice},
		{refused(oldOne, theRemove, api.ErrIO), asksOnce + `; Remove "o61"; Struck; Rest false`},
		{refused(oldOne, theSyncDir, api.ErrIO), asksTwice},
	} {
		s := gallery(small(), []exhibit{oldOne, x.missing, oldOne})
		s.delete(t)
		fatalUnless(t, s.disks[1].chart() == x.want && s.disks[0].chart() == asksTwice && s.disks[2].chart() == asksTwice, "the drives were asked\n%s", charts(s.disks))
	}
}

// wrongShapes may not be.
func wrongShapes() []api.Shape {
	return []api.Shape{
		{}, {K: 2, M: 0, Block: 4}, {K: 2, M: -1, Block: 4}, {K: 1, M: 2, Block: 4}, {K: 2, M: 1, Block: 0}, {K: 2, M: 1, Block: -1}, {K: 2, M: 1, Block: 65537},
		{K: 128, M: 128, Block: 4}, {K: 255, M: 1, Block: 4}, {K: -1, M: -1, Block: 4}, {K: 0, M: 0, Block: 4},
		{K: math.MaxInt, M: math.MaxInt, Block: 1}, {K: math.MinInt, M: math.MinInt, Block: 1}, {K: math.MaxInt, M: 3, Block: 1}, {K: 2, M: 1, Block: math.MaxInt},
	}
}

// P21.1: sets that may not be, of all kinds, ahead of all else that could be wrong: no drive is called.
func TestWrongSets(t *testing.T) {
	try := func(change func(set *api.Set), disks []subject) {
		t.Helper()
		for _, key := range []string{"a", "", strings.Repeat("k", 256)} {
			for _, closed := range []bool{false, true} {
				s := sceneOf(small(), disks, key)
				s.done = make(chan struct{})
				if closed {
					close(s.done)
				}
				change(s.set)
				fatalUnless(t, !isSet(s.set), "there can be %v", s.set)
				wantNumber(t, fmt.Sprint("Delete of ", s.set), s.delete(t), api.ErrArg)
			}
		}
		for i, d := range disks {
			fatalUnless(t, d.chart() == "", "the drive %d was asked %s", i, d.chart())
		}
	}
	standing := func(n int) []subject { return spies(n, func(i int) *spy { return oldOne(small(), min(i, 2)) }) }
	for _, shape := range wrongShapes() {
		for _, n := range []int{0, 1, 2, 3, 255, 256} {
			try(func(set *api.Set) { set.Shape = shape }, standing(n))
		}
	}
	for _, n := range []int{0, 1, 2, 4, 6, 255, 256} {
		try(func(*api.Set) {}, standing(n))
	}
	for _, epoch := range []int{0, -1, 4294967296, math.MaxInt, math.MinInt} {
		try(func(set *api.Set) { set.Last.Epoch = epoch }, standing(3))
	}
	for _, count := range []int{-1, 4294967296, math.MaxInt, math.MinInt} {
		try(func(set *api.Set) { set.Last.Count = count }, standing(3))
	}
}

// Every shape whose numbers are near their limits, with as many drives, one more and one fewer; none is there.
func TestEveryShape(t *testing.T) {
	none := make([]api.Disk, 600)
	met := map[api.Errno]int{}
	for k := -2; k < 260; k++ {
		for m := -2; m < 260; m++ {
			for _, block := range []int{-1, 0, 1, 65536, 65537} {
				for more := -1; more < 2; more++ {
					shape := api.Shape{K: k, M: m, Block: block}
					set := &api.Set{Disks: none[:max(0, k+m+more)], Shape: shape, Last: api.Gen{Epoch: 1}}
					want, key := api.ErrArg, "a"
					switch {
					case isSet(set) && (k+m)%16 != 0 && k+m < 254:
						want, key = api.ErrKey, ""
					case isSet(set):
						want = api.ErrQuorum // unknown: more than M places are silent
					}
					err := drop.Delete(set, nil, key)
					met[err]++
					if err != want {
						t.Fatalf("Delete of %d drives of %v = %d, not %d", len(set.Disks), shape, err, want)
					}
				}
			}
		}
	}
	fatalUnless(t, met[api.ErrQuorum] > 1000 && met[api.ErrKey] > 1000 && len(met) == 3, "%v", met)
}

// P21.2: of all Lasts that a set may have nothing is asked, and none is used up: a Delete has no generation, so it is not refused where the Count is at its end.
func TestEdgesOfLast(t *testing.T) {
	for _, epoch := range []int{1, 2, 65536, 4294967294, 4294967295} {
		for _, count := range []int{0, 1, 2, 65535, 4294967294, 4294967295} {
			for _, x := range []struct {
				l    []exhibit
				want api.Errno
			}{
				{[]exhibit{oldOne, oldOne, oldOne}, api.OK},
				{[]exhibit{oldOne, futureOne, futureOne}, api.OK},
				{[]exhibit{nothing, nothing, nothing}, api.ErrNotFound},
				{[]exhibit{oldOne, oldOne, refused(oldOne, theSyncDir, api.ErrIO)}, api.ErrQuorum},
			} {
				wantNumber(t, "Delete", check(t, func() scene {
					s := gallery(small(), x.l)
					s.set.Last = api.Gen{Epoch: epoch, Count: count}
					return s
				}), x.want)
			}
		}
	}
}

// flaw is something for which a Delete is refused.
type flaw struct {
	number api.Errno
	make   func(s *scene)
}

// flaws are all of them in their order (unknown and absent can't be both: where there is one flaw of each, it is unknown).
func flaws() []flaw {
	return []flaw{
		{api.ErrNil, func(s *scene) { s.set = nil }},
		{api.ErrArg, func(s *scene) { s.set.Disks = append(s.set.Disks, nil) }},
		{api.ErrKey, func(s *scene) { s.key = "" }},
		{api.ErrStopped, func(s *scene) { close(s.done) }},
		{api.ErrDown, func(s *scene) { s.disks[2].(*spy).fail(theRead, api.ErrDown) }},
		{api.ErrQuorum, func(s *scene) {
			for i := range 2 {
				s.disks[i].(*spy).fail(theRead, api.ErrIO)
			}
		}},
		{api.ErrNotFound, func(s *scene) {
			for _, d := range s.disks {
				d.(*spy).bytes = nil
			}
		}},
		{api.ErrStopped, func(s *scene) {
			done := s.done
			s.disks[1].(*spy).over = func(round int) {
				if round == 1 {
					close(done)
				}
			}
		}},
		{api.ErrDown, func(s *scene) { s.disks[1].(*spy).fail(theSyncDir, api.ErrDown) }},
		{api.ErrQuorum, func(s *scene) { s.disks[0].(*spy).fail(theRemove, api.ErrIO) }},
	}
}

// P21.1: of several things that are wrong the first one is answered, whatever stands behind it.
func TestTheOrderOfErrors(t *testing.T) {
	all := flaws()
	for subset := range 1 << len(all) {
		first := api.OK
		anew := func() scene {
			s := full(small())
			s.done = make(chan struct{})
			for i, f := range slices.Backward(all) {
				if subset>>i&1 == 1 {
					f.make(&s)
					first = f.number
				}
			}
			return s
		}
		got := check(t, anew)
		wantNumber(t, fmt.Sprintf("Delete with %b", subset), got, first)
	}
}

// What is refused ahead of any round does not look at done: who waits to send on it, waits still.
func TestDoneIsNotLookedAt(t *testing.T) {
	for _, change := range []func(s *scene){
		func(s *scene) { s.set = nil },
		func(s *scene) { s.set.Shape.K = 3 },
		func(s *scene) { s.key = "" },
	} {
		s := full(small())
		s.done = make(chan struct{})
		change(&s)
		ready, sent := make(chan struct{}), make(chan struct{})
		go func() {
			close(ready)
			s.done <- struct{}{}
			close(sent)
		}()
		<-ready
		time.Sleep(2 * time.Millisecond)
		err := s.delete(t)
		select {
		case <-sent:
			t.Fatalf("Delete = %d has received from done", err)
		case <-time.After(time.Millisecond):
		}
		<-s.done
		fatalUnless(t, err != api.OK && err != api.ErrStopped, "Delete = %d", err)
	}
}

// Keys of each number of bytes, and of any bytes; each has its own file.
func TestKeys(t *testing.T) {
	var any256 []byte
	for i := range 256 {
		any256 = append(any256, byte(i))
	}
	keys := []string{"", "\x00", "\xff", "o61", "t", "l", "a/b", "ä", string(any256), string(any256[1:]), string(any256[:255])}
	for n := range 300 {
		keys = append(keys, strings.Repeat("k", n))
	}
	for _, key := range keys {
		for _, stands := range []bool{false, true} {
			want := api.ErrNotFound
			switch {
			case len(key) < 1 || len(key) > 255:
				want = api.ErrKey
			case stands:
				want = api.OK
			}
			anew := func() scene {
				l := plain(3)
				if want == api.OK {
					for i, s := range shardsOf(api.Head{Store: theStore(), Shape: small(), Key: key, Gen: api.Gen{Epoch: 1, Count: 1}}, []byte(key)) {
						l[i].(*spy).bytes = formOf(s)
					}
				}
				return sceneOf(small(), l, key)
			}
			wantNumber(t, fmt.Sprintf("Delete of %q", key), check(t, anew), want)
		}
	}
}

// P21.1: whatever the places show and answer, in every way in small stores.
func TestWhateverPlacesShow(t *testing.T) {
	met := map[api.Errno]int{}
	for _, x := range []struct {
		shapes []api.Shape
		shows  []exhibit
	}{
		{[]api.Shape{{K: 1, M: 1, Block: 1}}, many()},
		{[]api.Shape{{K: 1, M: 1, Block: 9}, small(), {K: 2, M: 2, Block: 3}, {K: 3, M: 1, Block: 2}}, few()},
	} {
		for _, shape := range x.shapes {
			every(shape.K+shape.M, len(x.shows), func(numbers []int) {
				var l []exhibit
				for _, number := range numbers {
					l = append(l, x.shows[number])
				}
				met[check(t, func() scene { return gallery(shape, l) })]++
			})
		}
	}
	wantMet(t, met, api.OK, api.ErrNotFound, api.ErrQuorum, api.ErrDown)
}

// P21.1: places of great stores and of others show and answer all kinds of things.
func TestPlacesShowMany(t *testing.T) {
	r := source(211)
	met := map[api.Errno]int{}
	great := []api.Shape{{K: 253, M: 1, Block: 1}, {K: 128, M: 127, Block: 2}, {K: 10, M: 10, Block: 2}, {K: 20, M: 3, Block: 7}}
	shows := many()
	for run := range 6000 {
		shape := pick(r, shapes()...)
		if run%80 == 0 {
			shape = pick(r, great...)
		}
		n := shape.K + shape.M
		l := slices.Repeat([]exhibit{pick(r, nothing, oldOne, oldOne, oldOne, longOne)}, n)
		some := pick(r, 0, 1, shape.M-1, shape.M, shape.M+1, shape.K-1, shape.K, r.Intn(n+1))
		one := pick(r, shows...)
		for _, i := range r.Perm(n)[:some] {
			l[i] = one
			if run%3 == 0 {
				l[i] = pick(r, shows...)
			}
		}
		met[check(t, func() scene { return gallery(shape, l) })]++
	}
	wantMet(t, met, api.OK, api.ErrNotFound, api.ErrQuorum, api.ErrDown)
}

// P21.1: the edges of what a Look comes to, in every small shape: K - 1 and K shards, M and M + 1 places that are hidden. Only behind a value there is a second round.
func TestEdgesOfTheLook(t *testing.T) {
	for _, shape := range shapes() {
		n := shape.K + shape.M
		for shards := range n + 1 {
			for hidden := range n + 1 - shards {
				for _, veil := range []exhibit{nobody, refused(nothing, theRead, api.ErrOffline), refused(oldOne, theRead, api.ErrIO), spoiltOne} {
					want, asks := api.ErrNotFound, asksOnce
					switch {
					case shards >= shape.K:
						want, asks = api.OK, asksTwice
						if veil(shape, 0) == nil && n-hidden < shape.K+1 {
							want = api.ErrQuorum // too few are there
						}
					case hidden > shape.M:
						want = api.ErrQuorum
					}
					l := slices.Concat(slices.Repeat([]exhibit{oldOne}, shards), slices.Repeat([]exhibit{veil}, hidden), slices.Repeat([]exhibit{nothing}, n-shards-hidden))
					if (shards+hidden)%2 == 1 {
						slices.Reverse(l)
					}
					s := gallery(shape, l)
					wantNumber(t, fmt.Sprintf("%v, %d shards, %d hidden: Delete", shape, shards, hidden), s.delete(t), want)
					for i, d := range s.disks {
						fatalUnless(t, d == nil || d.chart() == asks, "the drive %d was asked %v", i, d)
					}
				}
			}
		}
	}
}

// P21.1: at each drive each call is refused with each number: a Remove's ErrMissing is none, ErrDown ends it, a Read is not counted.
func TestEachCallRefused(t *testing.T) {
	for _, shape := range shapes() {
		for faulty := range shape.K + shape.M {
			for call := range 5 { // the last two are not made
				for _, number := range numbers {
					want := api.OK
					switch {
					case call > theSyncDir:
					case number == api.ErrDown:
						want = api.ErrDown
					case call == theRead || number == api.OK || call == theRemove && number == api.ErrMissing:
					case shape.M == 1: // all must have answered OK
						want = api.ErrQuorum
					}
					l := slices.Repeat([]exhibit{oldOne}, shape.K+shape.M)
					l[faulty] = refused(oldOne, call, number)
					got := check(t, func() scene { return gallery(shape, l) })
					wantNumber(t, fmt.Sprintf("%v, the call %d of the drive %d answers %d: Delete", shape, call, faulty, number), got, want)
				}
			}
		}
	}
}

// P21.1: how many drives must have answered OK: K + 1, whichever they are; one that shows nothing counts, one that is not there does not.
func TestHowManyMustAnswer(t *testing.T) {
	for _, shape := range shapes() {
		n := shape.K + shape.M
		every(n, 6, func(ways []int) {
			var count [6]int
			var l []exhibit
			for _, way := range ways {
				count[way]++
				l = append(l, []exhibit{oldOne, nothing, nobody, refused(oldOne, theRemove, api.ErrFull), refused(oldOne, theSyncDir, api.ErrMissing), refused(oldOne, theSyncDir, api.ErrDown)}[way])
			}
			want := api.ErrQuorum
			switch {
			case count[0]+count[3]+count[4]+count[5] < shape.K:
				if count[2] <= shape.M {
					want = api.ErrNotFound
				}
			case count[5] > 0:
				want = api.ErrDown
			case count[0]+count[1] > shape.K:
				want = api.OK
			}
			wantNumber(t, fmt.Sprint("Delete with ", ways), gallery(shape, l).delete(t), want)
		})
	}
}

// P21.1: a drive that answers ErrDown ends the round, whatever the others say and however many answered OK.
func TestErrDown(t *testing.T) {
	for _, shape := range shapes() {
		n := shape.K + shape.M
		for down := range n {
			for call := range 3 {
				for _, x := range []struct {
					other exhibit
					shows bool
				}{
					{oldOne, true}, {refused(oldOne, theSyncDir, api.ErrIO), true}, {refused(oldOne, theRemove, api.ErrOffline), true},
					{nothing, false}, {nobody, false}, {spoiltOne, false}, {refused(oldOne, theRead, api.ErrIO), false},
				} {
					l := slices.Repeat([]exhibit{x.other}, n)
					l[down] = refused(oldOne, call, api.ErrDown)
					got := check(t, func() scene { return gallery(shape, l) })
					second := x.shows || shape.K == 1 // there is a second round
					fatalUnless(t, (got == api.ErrDown) == (call == theRead || second), "Delete = %d", got)
				}
			}
		}
	}
}

// wounds are drives that hold the old one, each at its place, and another key's file.
func wounds(shape api.Shape) []subject {
	var l []subject
	for i := range shape.K + shape.M {
		files := []api.File{{Name: "l", Data: []byte("label")}, {Name: "o61", Data: oldOne(shape, i).bytes}, {Name: "o62", Data: []byte("other")}}
		l = append(l, patient{wound.New(drive.Load(1000, files))})
	}
	return l
}

// The power goes at each call of each drive in each round: the others go through to their end, then it is off at all. At a round's end it goes unseen by that round.
func TestThePower(t *testing.T) {
	shape := api.Shape{K: 2, M: 2, Block: 4}
	for struck := range 4 {
		for round := range 4 {
			for call := range 4 {
				anew := func() scene {
					l := wounds(shape)
					l[struck].(patient).Fuse(round, call, 9)
					return sceneOf(shape, l, "a")
				}
				want := api.OK
				if round == 0 || round == 1 && call < 2 {
					want = api.ErrDown
				}
				wantNumber(t, "Delete", check(t, anew), want)
				s := anew()
				s.delete(t)
				for i, d := range s.disks {
					fatalUnless(t, d.(patient).On() == (round > 1), "struck in round %d: the power at the drive %d: %v", round, i, d.(patient).On())
					_, no := d.(patient).Drive.Read("o61")
					stands := round == 0 || i == struck && round == 1 && call == 0
					fatalUnless(t, (no == api.OK) == stands, "struck in round %d ahead of the call %d: Read at the drive %d = %d", round, call, i, no)
					pending := 0
					if i == struck && round == 1 && call == 1 {
						pending = 1
					}
					fatalUnless(t, d.(patient).Pending() == pending, "struck in round %d ahead of the call %d: %d changes are pending at the drive %d", round, call, d.(patient).Pending(), i)
				}
				want = api.ErrNotFound
				if round < 2 || round == 2 && call == 0 {
					want = api.ErrDown
				}
				wantNumber(t, "the next Delete", s.delete(t), want)
			}
		}
	}
}

// P21.1: it is looked whether it is stopped once at the beginning of each round, and never else; what done holds stays.
func TestStopped(t *testing.T) {
	for at := range 3 { // ahead, behind the first round, behind the second one
		for _, way := range []string{"close", "hold"} {
			stop := func(done chan struct{}) {
				if way == "close" {
					close(done)
				} else {
					done <- struct{}{}
				}
			}
			anew := func() scene {
				done := make(chan struct{}, 1)
				s := full(small())
				s.disks[1].(*spy).over = func(round int) {
					if round == at {
						stop(done)
					}
				}
				if at == 0 {
					stop(done)
				}
				s.done = done
				return s
			}
			want := api.ErrStopped
			if at == 2 {
				want = api.OK
			}
			wantNumber(t, "Delete", check(t, anew), want)
			s := anew()
			wantNumber(t, "Delete", s.delete(t), want)
			for i, d := range s.disks {
				fatalUnless(t, d.chart() == []string{"", asksOnce, asksTwice}[at], "%s behind %d rounds: the drive %d was asked %s", way, at, i, d.chart())
				fatalUnless(t, (d.(*spy).bytes == nil) == (at == 2), "%s behind %d rounds: the drive %d holds %v", way, at, i, d.(*spy).bytes)
			}
			fatalUnless(t, way == "close" || len(s.done) == 1, "what done holds was taken")
		}
	}
}

// A stop behind a Look that refuses says nothing: what the Look comes to is answered.
func TestStoppedBehindALookThatRefuses(t *testing.T) {
	for _, x := range []struct {
		shows exhibit
		want  api.Errno
	}{{nothing, api.ErrNotFound}, {refused(nothing, theRead, api.ErrIO), api.ErrQuorum}, {refused(oldOne, theRead, api.ErrDown), api.ErrDown}} {
		s := gallery(small(), []exhibit{x.shows, x.shows, x.shows})
		done := make(chan struct{})
		s.done = done
		s.disks[2].(*spy).over = func(int) { close(done) }
		wantNumber(t, "Delete", s.delete(t), x.want)
	}
}

// Who is told that a round is over, and that the power is gone, in each round.
func TestWhoIsStruck(t *testing.T) {
	for struck := range 5 {
		for round := range 4 {
			for _, l := range [][]exhibit{{oldOne, oldOne, nothing, nobody, oldOne}, {nothing, oldOne, nothing, nobody, oldOne}} {
				check(t, func() scene {
					s := gallery(api.Shape{K: 3, M: 2, Block: 4}, l)
					if s.disks[struck] != nil {
						s.disks[struck].(*spy).struck = round
					}
					return s
				})
			}
		}
	}
}

// The end of each round is told from place 0 on.
func TestWhoIsToldFirst(t *testing.T) {
	s := full(api.Shape{K: 3, M: 2, Block: 4})
	var told []int
	for i, d := range s.disks {
		d.(*spy).over = func(int) { told = append(told, i) }
	}
	wantNumber(t, "Delete", s.delete(t), api.OK)
	fatalUnless(t, slices.Equal(told, []int{0, 1, 2, 3, 4, 0, 1, 2, 3, 4}), "the drives were told in the order %v", told)
}

// Wounds with plans, offline, with fuses, and on which this and that stands: Delete does to them what the words do, and answers the same.
func TestSomeWounds(t *testing.T) {
	met := map[api.Errno]int{}
	for seed := range int64(8000) {
		met[check(t, func() scene { return someWorld(seed) })]++
	}
	wantMet(t, met, api.OK, api.ErrNotFound, api.ErrQuorum, api.ErrDown)
}

package get_test

import (
	"bytes"
	"fmt"
	"math"
	"slices"
	"strings"
	"testing"
	"time"

	"cairn/api"
	"cairn/drive"
	"cairn/fan"
	"cairn/get"
	"cairn/put"
	"cairn/wound"
)

// numbers are answers of a drive; the first is OK.
var numbers = []api.Errno{0, 110, 120, 121, 122, 111, 112, 91, 90, 70, 81, 1, 2, 3, 170, 181, 200, 201, 160, 7, -1, -7, math.MaxInt, math.MinInt}

// wantGet wants these bytes, this generation and this number.
func wantGet(t *testing.T, set *api.Set, done <-chan struct{}, key, want string, gen api.Gen, no api.Errno) {
	t.Helper()
	data, g, err := get.Get(set, done, key)
	fatalUnless(t, string(data) == want && g == gen && err == no, "Get %q = %q, %v, %d, not %q, %v, %d", key, data, g, err, want, gen, no)
}

// wantRange wants these bytes and this number.
func wantRange(t *testing.T, set *api.Set, key string, off, n int, want string, no api.Errno) {
	t.Helper()
	data, err := get.Range(set, nil, key, off, n)
	fatalUnless(t, string(data) == want && err == no, "Range %q %d %d = %q, %d, not %q, %d", key, off, n, data, err, want, no)
}

// laid is the store of the chapter's examples.
func laid(t *testing.T) (*api.Set, []*wound.Wound) {
	t.Helper()
	set, w := ward(small(), 1000)
	wantNumber(t, "Put", put.Put(set, nil, "a", []byte{104, 101, 108, 108, 111}), api.OK)
	wantNumber(t, "Put", put.Put(set, nil, "e", nil), api.OK)
	return set, w
}

// The chapter's examples, row by row.
func TestExamples(t *testing.T) {
	first, none := api.Gen{Epoch: 1, Count: 1}, api.Gen{}
	set, _ := laid(t)
	wantGet(t, set, nil, "a", "hello", first, api.OK)
	wantGet(t, set, nil, "e", "", api.Gen{Epoch: 1, Count: 2}, api.OK)
	wantGet(t, set, nil, "b", "", none, api.ErrNotFound)
	wantGet(t, set, nil, "", "", none, api.ErrKey)

	wantRange(t, set, "a", 1, 3, "ell", api.OK)
	wantRange(t, set, "a", 4, 9, "o", api.OK)
	wantRange(t, set, "a", 5, 1, "", api.OK)
	wantRange(t, set, "a", 6, 0, "", api.ErrRange)
	wantRange(t, set, "a", 0, 0, "", api.OK)
	wantRange(t, set, "a", -1, 2, "", api.ErrArg)
	wantRange(t, set, "e", 0, 5, "", api.OK)
	wantRange(t, set, "e", 1, 0, "", api.ErrRange)

	for i := range 3 {
		for j := range 3 {
			if i != j {
				examplesOfHarm(t, i, j)
			}
		}
	}

	wantGet(t, set, fan.Done(true), "a", "", none, api.ErrStopped)
	wantGet(t, set, fan.Done(true), "", "", none, api.ErrKey)
	for i := range 3 {
		set, w := laid(t)
		w[i].Power(false)
		wantGet(t, set, nil, "a", "", none, api.ErrDown)
		for _, x := range w {
			x.Power(false)
		}
		wantGet(t, set, nil, "a", "", none, api.ErrDown)
	}
	wantGet(t, nil, nil, "a", "", none, api.ErrNil)
}

// examplesOfHarm are the rows of the places that are harmed, at these two.
func examplesOfHarm(t *testing.T, i, j int) {
	t.Helper()
	first, none := api.Gen{Epoch: 1, Count: 1}, api.Gen{}
	set, w := laid(t)
	w[i].Offline(true)
	wantGet(t, set, nil, "a", "hello", first, api.OK)
	w[j].Offline(true)
	wantGet(t, set, nil, "a", "", none, api.ErrQuorum)

	set, _ = laid(t)
	set.Disks[i] = nil
	wantGet(t, set, nil, "a", "hello", first, api.OK)

	set, w = laid(t)
	w[i].Wipe()
	wantGet(t, set, nil, "a", "hello", first, api.OK)
	w[j].Offline(true)
	wantGet(t, set, nil, "a", "", none, api.ErrNotFound)
	v, seen, err := get.Look(set, nil, "a")
	fatalUnless(t, v.Kind == api.IsAbsent && err == api.OK, "Look = %v, %d", v, err)
	fatalUnless(t, seen[i].Kind == api.SeenNone && seen[j].Kind == api.SeenSilent && seen[3-i-j].Kind == api.SeenShard, "Look = %v", seen)
	w[j].Offline(false)
	w[j].Wipe()
	wantGet(t, set, nil, "a", "", none, api.ErrNotFound)
}

// P20.1: what Look tells of a store in which each place shows something else, field by field.
func TestLook(t *testing.T) {
	shape := api.Shape{K: 3, M: 3, Block: 2}
	h := api.Head{Store: theStore(), Shape: shape, Key: "a", Gen: api.Gen{Epoch: 2, Count: 7}}
	shards := shardsOf(h, []byte("hello world"))
	l := spies(6, func(i int) *spy { return &spy{bytes: formOf(shards[i])} })
	l[1].(*spy).bytes = nil
	l[2] = nil
	l[4].(*spy).errs = map[int]api.Errno{0: api.ErrFull, 1: api.ErrFull, 2: api.ErrIO}
	s := sceneOf(shape, l, "a")
	v, seen, err := get.Look(s.set, nil, "a")
	fatalUnless(t, err == api.OK && v.Kind == api.IsValue && v.Gen == h.Gen && v.Size == 11 && slices.Equal(v.Places, []int{0, 3, 5}), "Look = %v, %d", v, err)
	want := []api.Seen{
		{Kind: api.SeenShard, Shard: shards[0]}, {Kind: api.SeenNone}, {Kind: api.SeenSilent},
		{Kind: api.SeenShard, Shard: shards[3]}, {Kind: api.SeenSilent, Err: api.ErrFull}, {Kind: api.SeenShard, Shard: shards[5]},
	}
	fatalUnless(t, fmt.Sprint(seen) == fmt.Sprint(want), "Look = %v, not %v", seen, want)
	for i, d := range s.disks {
		fatalUnless(t, d == nil || d.chart() == `Read "o61"; Struck; Rest false`, "the drive %d: %v", i, d)
	}

	l[0].(*spy).bytes[50] ^= 4
	v, seen, err = get.Look(s.set, nil, "a")
	fatalUnless(t, err == api.OK && v.Kind == api.IsAbsent && v.Places == nil && seen[0].Kind == api.SeenSpoilt, "Look = %v, %v, %d", v, seen, err)
	l[3].(*spy).bytes = []byte("x")
	v, seen, err = get.Look(s.set, nil, "a")
	fatalUnless(t, err == api.OK && v.Kind == api.IsUnknown && seen[3].Kind == api.SeenSpoilt && seen[4].Err == api.ErrIO && len(seen) == 6, "Look = %v, %v, %d", v, seen, err)
}

// wrongShapes may not be.
func wrongShapes() []api.Shape {
	return []api.Shape{
		{}, {K: 2, M: 0, Block: 4}, {K: 2, M: -1, Block: 4}, {K: 1, M: 2, Block: 4}, {K: 2, M: 1, Block: 0}, {K: 2, M: 1, Block: -1}, {K: 2, M: 1, Block: 65537},
		{K: 128, M: 128, Block: 4}, {K: 255, M: 1, Block: 4}, {K: -1, M: -1, Block: 4}, {K: 0, M: 0, Block: 4},
		{K: math.MaxInt, M: math.MaxInt, Block: 1}, {K: math.MinInt, M: math.MinInt, Block: 1}, {K: math.MaxInt, M: 3, Block: 1}, {K: 2, M: 1, Block: math.MaxInt},
	}
}

// Sets that may not be, of all kinds, ahead of all else that could be wrong: no drive is called.
func TestWrongSets(t *testing.T) {
	try := func(change func(set *api.Set), disks []subject) {
		t.Helper()
		for _, key := range []string{"a", "", strings.Repeat("k", 256)} {
			for _, closed := range []bool{false, true} {
				for _, r := range append(readings(), ranging(-1, 2), ranging(2, -1)) {
					s := sceneOf(small(), disks, key)
					s.done = make(chan struct{})
					if closed {
						close(s.done)
					}
					change(s.set)
					fatalUnless(t, !isSet(s.set), "there can be %v", s.set)
					wantNumber(t, fmt.Sprint(r.says, " of ", s.set), s.read(t, r).err, api.ErrArg)
				}
			}
		}
		for i, d := range disks {
			fatalUnless(t, d.chart() == "", "the drive %d was asked %s", i, d.chart())
		}
	}
	for _, shape := range wrongShapes() {
		for _, n := range []int{0, 1, 2, 3, 255, 256} {
			try(func(set *api.Set) { set.Shape = shape }, plain(n))
		}
	}
	for _, n := range []int{0, 1, 2, 4, 6, 255, 256} {
		try(func(*api.Set) {}, plain(n))
	}
	for _, epoch := range []int{0, -1, 4294967296, math.MaxInt, math.MinInt} {
		try(func(set *api.Set) { set.Last.Epoch = epoch }, plain(3))
	}
	for _, count := range []int{-1, 4294967296, math.MaxInt, math.MinInt} {
		try(func(set *api.Set) { set.Last.Count = count }, plain(3))
	}
}

// Every shape whose numbers are near their limits, with as many drives, one more and one fewer; none is there.
func TestEveryShape(t *testing.T) {
	none := make([]api.Disk, 600)
	met := map[api.Errno]int{}
	for k := -2; k < 260; k++ {
		for m := -2; m < 260; m++ {
			for _, block := range []int{-1, 0, 1, 65536, 65537} {
				for more := -1; more < 2; more++ {
					shape := api.Shape{K: k, M: m, Block: block}
					set := &api.Set{Disks: none[:max(0, k+m+more)], Shape: shape, Last: api.Gen{Epoch: 1}}
					want, key := api.ErrArg, "a"
					switch {
					case isSet(set) && (k+m)%16 != 0 && k+m < 254:
						want, key = api.ErrKey, ""
					case isSet(set):
						want = api.ErrQuorum // unknown: more than M places are silent
					}
					_, _, err := get.Get(set, nil, key)
					met[err]++
					if err != want {
						t.Fatalf("Get of %d drives of %v = %d, not %d", len(set.Disks), shape, err, want)
					}
				}
			}
		}
	}
	fatalUnless(t, met[api.ErrQuorum] > 1000 && met[api.ErrKey] > 1000 && len(met) == 3, "%v", met)
}

// Of all Lasts that a set may have nothing is asked, a generation that is above it counts as any other.
func TestEdgesOfLast(t *testing.T) {
	for _, epoch := range []int{1, 2, 65536, 4294967294, 4294967295} {
		for _, count := range []int{0, 1, 2, 65535, 4294967294, 4294967295} {
			for _, l := range [][]exhibit{{oldOne, oldOne, oldOne}, {oldOne, futureOne, futureOne}, {nothing, nothing, nothing}} {
				checkAll(t, func() scene {
					s := gallery(small(), l)
					s.set.Last = api.Gen{Epoch: epoch, Count: count}
					return s
				}, ranging(1, 2))
			}
		}
	}
}

// flaw is something for which a reading is refused.
type flaw struct {
	number api.Errno
	make   func(s *scene)
}

// flaws are all of them in their order; the last two are none of Look's.
func flaws() []flaw {
	return []flaw{
		{api.ErrNil, func(s *scene) { s.set = nil }},
		{api.ErrArg, func(s *scene) { s.set.Disks = append(s.set.Disks, nil) }},
		{api.ErrKey, func(s *scene) { s.key = "" }},
		{api.ErrStopped, func(s *scene) { close(s.done) }},
		{api.ErrDown, func(s *scene) { s.disks[2].(*spy).errs = map[int]api.Errno{0: api.ErrDown} }},
		{api.ErrQuorum, func(s *scene) {
			for i := range 2 {
				s.disks[i].(*spy).errs = map[int]api.Errno{0: api.ErrIO}
			}
		}},
		{api.ErrNotFound, func(s *scene) {
			for _, d := range s.disks {
				d.(*spy).bytes = nil
			}
		}},
	}
}

// Of several things that are wrong the first one is answered, whatever stands behind it.
func TestTheOrderOfErrors(t *testing.T) {
	all := flaws()
	for subset := range 1 << len(all) {
		first := api.OK
		anew := func() scene {
			s := gallery(small(), []exhibit{oldOne, oldOne, oldOne})
			s.done = make(chan struct{})
			for i, f := range slices.Backward(all) {
				if subset>>i&1 == 1 {
					f.make(&s)
					first = f.number
				}
			}
			return s
		}
		got := check(t, getting(), anew).err
		wantNumber(t, fmt.Sprintf("Get with %b", subset), got, first)
		got = check(t, looking(), anew).err
		if first == api.ErrQuorum || first == api.ErrNotFound {
			wantNumber(t, fmt.Sprintf("Look with %b", subset), got, api.OK)
		} else {
			wantNumber(t, fmt.Sprintf("Look with %b", subset), got, first)
		}
		for _, off := range []int{-1, 0, 5, 6, math.MinInt, math.MaxInt} {
			for _, n := range []int{-1, 0, 1, math.MinInt, math.MaxInt} {
				got = check(t, ranging(off, n), anew).err
				want := first
				switch {
				case first == api.ErrNil || first == api.ErrKey: // these come ahead of off and n
				case off < 0 || n < 0:
					want = api.ErrArg
				case first == api.OK && off > 5:
					want = api.ErrRange
				}
				wantNumber(t, fmt.Sprintf("Range %d %d with %b", off, n, subset), got, want)
			}
		}
	}
}

// What is refused ahead of the round does not look at done: who waits to send on it, waits still.
func TestDoneIsNotLookedAt(t *testing.T) {
	try := func(r reading, change func(s *scene)) {
		t.Helper()
		s := gallery(small(), []exhibit{oldOne, oldOne, oldOne})
		s.done = make(chan struct{})
		change(&s)
		ready, sent := make(chan struct{}), make(chan struct{})
		go func() {
			close(ready)
			s.done <- struct{}{}
			close(sent)
		}()
		<-ready
		time.Sleep(2 * time.Millisecond)
		err := s.read(t, r).err
		select {
		case <-sent:
			t.Fatalf("%s = %d has received from done", r.says, err)
		case <-time.After(time.Millisecond):
		}
		<-s.done
		fatalUnless(t, err != api.OK && err != api.ErrStopped, "%s = %d", r.says, err)
	}
	for _, r := range readings() {
		try(r, func(s *scene) { s.set = nil })
		try(r, func(s *scene) { s.set.Shape.K = 3 })
		try(r, func(s *scene) { s.key = "" })
	}
	try(ranging(-1, 0), func(*scene) {})
	try(ranging(0, -1), func(*scene) {})
}

// Keys of each number of bytes, and of any bytes; each has its own file.
func TestKeys(t *testing.T) {
	var any256 []byte
	for i := range 256 {
		any256 = append(any256, byte(i))
	}
	keys := []string{"", "\x00", "\xff", "o61", "t", "l", "a/b", "ä", string(any256), string(any256[1:]), string(any256[:255])}
	for n := range 300 {
		keys = append(keys, strings.Repeat("k", n))
	}
	for _, key := range keys {
		for _, stands := range []bool{false, true} {
			want := api.ErrNotFound
			switch {
			case len(key) < 1 || len(key) > 255:
				want = api.ErrKey
			case stands:
				want = api.OK
			}
			anew := func() scene {
				l := plain(3)
				if want == api.OK {
					for i, s := range shardsOf(api.Head{Store: theStore(), Shape: small(), Key: key, Gen: api.Gen{Epoch: 1, Count: 1}}, []byte(key)) {
						l[i].(*spy).bytes = formOf(s)
					}
				}
				return sceneOf(small(), l, key)
			}
			wantNumber(t, fmt.Sprintf("Get of %q", key), checkAll(t, anew, ranging(0, 300), ranging(1, 1)), want)
			got := anew().read(t, getting())
			fatalUnless(t, want != api.OK || string(got.data) == key, "Get of %q = %q", key, got.data)
		}
	}
}

// exhibit is what a place shows of the key "a" in a store of that shape, at that place; nil: there is no drive.
type exhibit func(shape api.Shape, place int) *spy

// stored shows the shard of a writing, whose head is first changed.
func stored(gen api.Gen, data string, change func(h *api.Head)) exhibit {
	return func(shape api.Shape, place int) *spy {
		h := api.Head{Store: theStore(), Shape: shape, Key: "a", Gen: gen}
		change(&h)
		forms := formsOf(h, data)
		return &spy{bytes: slices.Clone(forms[min(place, len(forms)-1)])}
	}
}

// text is an object with its head.
type text struct {
	head api.Head
	data string
}

var made = map[text][][]byte{}

// formsOf are the bytes of the files of an object, which are made once: a great shape takes its time.
func formsOf(h api.Head, data string) [][]byte {
	if _, is := made[text{h, data}]; !is {
		var forms [][]byte
		for _, s := range shardsOf(h, []byte(data)) {
			forms = append(forms, formOf(s))
		}
		made[text{h, data}] = forms
	}
	return made[text{h, data}]
}

// spoiled is an exhibit whose bytes are changed.
func spoiled(of exhibit, change func(b []byte) []byte) exhibit {
	return func(shape api.Shape, place int) *spy {
		s := of(shape, place)
		s.bytes = change(s.bytes)
		return s
	}
}

// refused is an exhibit whose Read answers this number, beside its bytes.
func refused(of exhibit, number api.Errno) exhibit {
	return func(shape api.Shape, place int) *spy {
		s := of(shape, place)
		s.errs = map[int]api.Errno{0: number}
		return s
	}
}

func asItIs(*api.Head) {}

func nothing(api.Shape, int) *spy { return &spy{} }

func nobody(api.Shape, int) *spy { return nil }

// The writings that stand there: the twin has the generation and the size of the old one, and other bytes; the last one is newer than the set's Last.
var (
	oldOne    = stored(api.Gen{Epoch: 1, Count: 9}, "hello", asItIs)
	twinOne   = stored(api.Gen{Epoch: 1, Count: 9}, "world", asItIs)
	longOne   = stored(api.Gen{Epoch: 1, Count: 9}, "hello!", asItIs)
	youngOne  = stored(api.Gen{Epoch: 2, Count: 1}, "young", asItIs)
	futureOne = stored(api.Gen{Epoch: 9, Count: 9}, "", asItIs)
)

// few are exhibits of each kind that a Judge tells apart, and the twin.
func few() []exhibit {
	return []exhibit{nobody, nothing, oldOne, longOne, youngOne, twinOne, spoiled(oldOne, func(b []byte) []byte { return b[1:] }), refused(oldOne, api.ErrIO), refused(oldOne, api.ErrDown)}
}

// many are exhibits of all kinds.
func many() []exhibit {
	gen := api.Gen{Epoch: 1, Count: 9}
	all := append(few(), futureOne,
		stored(gen, "hello", func(h *api.Head) { h.Store[3] = 1 }),
		stored(gen, "hello", func(h *api.Head) { h.Shape.Block++ }),
		stored(gen, "hello", func(h *api.Head) { h.Shape.K = min(h.Shape.K+1, 255-h.Shape.M) }),
		stored(gen, "hello", func(h *api.Head) { h.Key = "b" }),
		stored(gen, "hello", func(h *api.Head) { h.Key = "aa" }),
		stored(api.Gen{Epoch: 1, Count: 8}, "hello", asItIs),
		stored(api.Gen{Epoch: api.MaxEpoch, Count: api.MaxCount}, strings.Repeat("long ", 20), asItIs),
		func(shape api.Shape, place int) *spy { return oldOne(shape, (place+1)%(shape.K+shape.M)) },
		spoiled(oldOne, func([]byte) []byte { return []byte{} }),
		spoiled(oldOne, func(b []byte) []byte { return append(b, 0) }),
		spoiled(oldOne, func(b []byte) []byte { return b[:len(b)-1] }),
		spoiled(oldOne, func(b []byte) []byte { b[len(b)-5] ^= 1; return b }),
		spoiled(oldOne, func(b []byte) []byte { b[20] ^= 1; return b }),
	)
	for _, number := range numbers {
		all = append(all, refused(oldOne, number), refused(nothing, number))
	}
	return all
}

// gallery is a scene of which each place shows what the list says.
func gallery(shape api.Shape, l []exhibit) scene {
	return sceneOf(shape, spies(len(l), func(i int) *spy { return l[i](shape, i) }), "a")
}

// wantMet wants each of these numbers to have been answered often, and no other one.
func wantMet(t *testing.T, met map[api.Errno]int, all ...api.Errno) {
	t.Helper()
	for _, err := range all {
		fatalUnless(t, met[err] > 100 && len(met) == len(all), "%d: %d times of %v", err, met[err], met)
	}
}

// P20.1 to P20.3: whatever the places show, in every way in small stores.
func TestWhateverPlacesShow(t *testing.T) {
	met := map[api.Errno]int{}
	for _, x := range []struct {
		shapes []api.Shape
		shows  []exhibit
	}{
		{[]api.Shape{{K: 1, M: 1, Block: 1}}, many()},
		{[]api.Shape{{K: 1, M: 1, Block: 9}, small(), {K: 2, M: 2, Block: 3}, {K: 3, M: 1, Block: 2}}, few()},
	} {
		for _, shape := range x.shapes {
			every(shape.K+shape.M, len(x.shows), func(numbers []int) {
				var l []exhibit
				sum := 0
				for _, number := range numbers {
					l = append(l, x.shows[number])
					sum += number
				}
				met[checkAll(t, func() scene { return gallery(shape, l) }, ranging(sum%8, sum/8%7))]++
			})
		}
	}
	wantMet(t, met, api.OK, api.ErrNotFound, api.ErrQuorum, api.ErrDown)
}

// P20.1 to P20.3: places of great stores and of others show all kinds of things.
func TestPlacesShowMany(t *testing.T) {
	r := source(201)
	met := map[api.Errno]int{}
	great := []api.Shape{{K: 253, M: 1, Block: 1}, {K: 128, M: 127, Block: 2}, {K: 10, M: 10, Block: 2}, {K: 20, M: 3, Block: 7}}
	shows := many()
	for run := range 4000 {
		shape := pick(r, shapes()...)
		if run%150 == 0 {
			shape = pick(r, great...)
		}
		n := shape.K + shape.M
		l := slices.Repeat([]exhibit{pick(r, nothing, oldOne, oldOne, longOne)}, n)
		some := pick(r, 0, 1, shape.M-1, shape.M, shape.M+1, shape.K-1, shape.K, r.Intn(n+1))
		one := pick(r, shows...)
		for _, i := range r.Perm(n)[:some] {
			l[i] = one
			if run%3 == 0 {
				l[i] = pick(r, shows...)
			}
		}
		met[checkAll(t, func() scene { return gallery(shape, l) }, ranging(r.Intn(8), r.Intn(8)))]++
	}
	wantMet(t, met, api.OK, api.ErrNotFound, api.ErrQuorum, api.ErrDown)
}

// The edges of what a Look comes to, in every small shape: K - 1 and K shards, M and M + 1 places that are hidden.
func TestEdgesOfTheLook(t *testing.T) {
	for _, shape := range shapes() {
		n := shape.K + shape.M
		for shards := range n + 1 {
			for hidden := range n + 1 - shards {
				for _, veil := range []exhibit{nobody, refused(nothing, api.ErrOffline), refused(oldOne, api.ErrIO), spoiled(oldOne, func([]byte) []byte { return []byte{1} })} {
					want, data := api.ErrNotFound, ""
					switch {
					case shards >= shape.K:
						want, data = api.OK, "hello"
					case hidden > shape.M:
						want = api.ErrQuorum
					}
					l := slices.Concat(slices.Repeat([]exhibit{oldOne}, shards), slices.Repeat([]exhibit{veil}, hidden), slices.Repeat([]exhibit{nothing}, n-shards-hidden))
					if (shards+hidden)%2 == 1 {
						slices.Reverse(l)
					}
					got := gallery(shape, l).read(t, getting())
					fatalUnless(t, got.err == want && string(got.data) == data, "%v, %d shards, %d hidden: Get = %v, not %q, %d", shape, shards, hidden, got, data, want)
				}
			}
		}
	}
}

// Each place's Read is refused with each number: ErrMissing hides nothing, ErrDown ends it, any other one hides the place.
func TestEachReadRefused(t *testing.T) {
	for _, shape := range shapes() {
		for faulty := range shape.K + shape.M {
			for _, number := range numbers {
				l := slices.Repeat([]exhibit{oldOne}, shape.K+shape.M)
				l[faulty] = refused(oldOne, number)
				anew := func() scene { return gallery(shape, l) }
				want := api.OK // M is 1 or more
				if number == api.ErrDown {
					want = api.ErrDown
				}
				wantNumber(t, "Get", checkAll(t, anew, ranging(2, 2)), want)
				seen := anew().read(t, looking()).seen
				switch number {
				case api.OK:
					fatalUnless(t, seen[faulty].Kind == api.SeenShard && seen[faulty].Err == api.OK, "Look = %v", seen)
				case api.ErrMissing:
					fatalUnless(t, seen[faulty].Kind == api.SeenNone && seen[faulty].Err == api.OK, "Look = %v", seen)
				case api.ErrDown:
					fatalUnless(t, seen == nil, "Look = %v", seen)
				default:
					fatalUnless(t, seen[faulty].Kind == api.SeenSilent && seen[faulty].Err == number && seen[faulty].Shard.Blocks == nil, "Look = %v", seen)
				}
			}
		}
	}
}

// P20.2: where shards of one generation and size are unlike all the same, the K least places that show them are joined.
func TestTheLeastPlaces(t *testing.T) {
	shape := api.Shape{K: 2, M: 2, Block: 4}
	for _, x := range []struct {
		l    []exhibit
		want string
	}{
		{[]exhibit{oldOne, oldOne, twinOne, twinOne}, "hello"},
		{[]exhibit{twinOne, twinOne, oldOne, oldOne}, "world"},
		{[]exhibit{nobody, oldOne, oldOne, twinOne}, "hello"},
		{[]exhibit{twinOne, nothing, twinOne, oldOne}, "world"},
		{[]exhibit{oldOne, twinOne, twinOne, twinOne}, "helld"},
		{[]exhibit{youngOne, oldOne, nothing, oldOne}, "hello"},
	} {
		s := gallery(shape, x.l)
		got := s.read(t, getting())
		fatalUnless(t, string(got.data) == x.want && got.gen == api.Gen{Epoch: 1, Count: 9}, "Get = %v, not %q", got, x.want)
		wantRange(t, gallery(shape, x.l).set, "a", 3, 2, x.want[3:], api.OK)
	}
}

// P20.3: each piece of objects of each length up to some stripes, and such as reach beyond them.
func TestEveryPiece(t *testing.T) {
	for _, shape := range shapes() {
		for size := range 2*shape.K*shape.Block + 3 {
			data := []byte("abcdefghijklmnopqrstuvwxyzABCDEFGHIJKLMNOPQRSTUVWXYZ")[:size]
			set, w := ward(shape, 1000)
			wantNumber(t, "Put", put.Put(set, nil, "a", data), api.OK)
			w[size%len(w)].Offline(true)
			offs := []int{0, 1, math.MaxInt, math.MaxInt - 1, 1 << 32, 1 << 62}
			for off := range size + 3 {
				offs = append(offs, off)
			}
			for _, off := range offs {
				for _, n := range append(offs, -1, math.MinInt) {
					want := answer{err: api.ErrArg}
					if n >= 0 {
						want = piece(data, off, n)
					}
					wantRange(t, set, "a", off, n, string(want.data), want.err)
				}
			}
		}
	}
}

// Objects that just fit, out of as few places as there may be; pieces at their edges.
func TestGreatObjects(t *testing.T) {
	r := source(202)
	for _, x := range []struct {
		shape api.Shape
		size  int
	}{
		{api.Shape{K: 1, M: 1, Block: 1}, 4096},
		{small(), 32768},
		{api.Shape{K: 2, M: 2, Block: 127}, 1040384},
		{api.Shape{K: 2, M: 2, Block: 128}, 1048576},
		{api.Shape{K: 2, M: 1, Block: 65536}, 1048576},
		{api.Shape{K: 2, M: 1, Block: 65536}, 131073},
		{api.Shape{K: 254, M: 1, Block: 2}, 1048576},
		{api.Shape{K: 128, M: 127, Block: 3}, 1048576},
	} {
		data := make([]byte, x.size)
		r.Read(data)
		set, w := ward(x.shape, 2<<20)
		wantNumber(t, "Put", put.Put(set, nil, "a", data), api.OK)
		for _, i := range r.Perm(len(w))[:x.shape.M] {
			w[i].Offline(true)
		}
		got, gen, err := get.Get(set, nil, "a")
		fatalUnless(t, err == api.OK && gen == set.Last && bytes.Equal(got, data), "%v: Get tells %d bytes, %v, %d", x.shape, len(got), gen, err)
		stripe := x.shape.K * x.shape.Block
		for i, off := range []int{0, 1, stripe - 1, stripe, max(0, x.size-stripe), x.size - 1, x.size, x.size + 1} {
			for j, n := range []int{0, 1, stripe, stripe + 1, x.size, math.MaxInt} {
				if len(w) > 10 && (i+j)%7 != 3 { // these take their time
					continue
				}
				want := piece(data, off, n)
				got, err := get.Range(set, nil, "a", off, n)
				fatalUnless(t, err == want.err && bytes.Equal(got, want.data), "%v: Range %d %d tells %d bytes, %d, not %d, %d", x.shape, off, n, len(got), err, len(want.data), want.err)
			}
		}
	}
}

// A drive that answers ErrDown ends the round, whatever the others say and however many show the object.
func TestErrDown(t *testing.T) {
	for _, shape := range shapes() {
		n := shape.K + shape.M
		for down := range n {
			for _, other := range []exhibit{nothing, nobody, oldOne, refused(nothing, api.ErrIO), spoiled(oldOne, func([]byte) []byte { return []byte{1} })} {
				l := slices.Repeat([]exhibit{other}, n)
				l[down] = refused(nothing, api.ErrDown)
				for _, r := range append(readings(), ranging(9, 9)) {
					wantNumber(t, r.says, check(t, r, func() scene { return gallery(shape, l) }).err, api.ErrDown)
				}
			}
		}
	}
}

// wounds are drives that hold the old one, each at its place.
func wounds(shape api.Shape) []subject {
	var l []subject
	for i := range shape.K + shape.M {
		l = append(l, patient{wound.New(drive.Load(1000, []api.File{{Name: "o61", Data: oldOne(shape, i).bytes}}))})
	}
	return l
}

// The power goes at each call of each drive in each round: the others go through to their end, then it is off at all. At a round's end it goes unseen by that round.
func TestThePower(t *testing.T) {
	for struck := range 4 {
		for round := range 3 {
			for call := range 3 {
				for _, r := range readings() {
					anew := func() scene {
						l := wounds(api.Shape{K: 2, M: 2, Block: 4})
						l[struck].(patient).Fuse(round, call, 9)
						return sceneOf(api.Shape{K: 2, M: 2, Block: 4}, l, "a")
					}
					want := api.OK
					if round == 0 && call == 0 {
						want = api.ErrDown
					}
					wantNumber(t, r.says, check(t, r, anew).err, want)
					s := anew()
					s.read(t, r)
					for i, d := range s.disks {
						fatalUnless(t, d.(patient).On() == (round > 0), "struck in round %d: the power at the drive %d: %v", round, i, d.(patient).On())
					}
					if round == 0 {
						want = api.ErrDown
					}
					if round == 1 && call == 0 {
						want = api.ErrDown
					}
					wantNumber(t, "the next "+r.says, s.read(t, r).err, want)
				}
			}
		}
	}
}

// It is looked whether it is stopped once, at the beginning of the round, and never else; what done holds stays.
func TestStopped(t *testing.T) {
	for at := range 2 { // ahead, behind the round
		for _, way := range []string{"close", "hold"} {
			for _, r := range append(readings(), ranging(9, 9)) {
				stop := func(done chan struct{}) {
					if way == "close" {
						close(done)
					} else {
						done <- struct{}{}
					}
				}
				anew := func() scene {
					s := gallery(small(), []exhibit{oldOne, oldOne, oldOne})
					done := make(chan struct{}, 1)
					s.done = done
					s.disks[1].(*spy).over = func(int) { stop(done) }
					if at == 0 {
						stop(done)
					}
					return s
				}
				want := check(t, r, anew).err
				s := anew()
				err := s.read(t, r).err
				fatalUnless(t, err == want && (at == 0) == (err == api.ErrStopped), "%s, %s: %d", r.says, way, err)
				for i, d := range s.disks {
					fatalUnless(t, d.(*spy).rounds == at, "%s: the drive %d was in %d rounds", r.says, i, d.(*spy).rounds)
				}
				fatalUnless(t, way == "close" || len(s.done) == 1, "what done holds was taken")
			}
		}
	}
}

// Who is told that the round is over, and that the power is gone.
func TestWhoIsStruck(t *testing.T) {
	for struck := range 5 {
		for round := range 3 {
			for _, r := range readings() {
				check(t, r, func() scene {
					s := gallery(api.Shape{K: 3, M: 2, Block: 4}, []exhibit{oldOne, oldOne, nothing, nobody, oldOne})
					if s.disks[struck] != nil {
						s.disks[struck].(*spy).struck = round
					}
					return s
				})
			}
		}
	}
}

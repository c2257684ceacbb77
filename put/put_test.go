package put_test

import (
	"bytes"
	"fmt"
	"math"
	"slices"
	"strings"
	"testing"
	"time"

	"cairn/api"
	"cairn/drive"
	"cairn/fan"
	"cairn/put"
	"cairn/wound"
)

// numbers are answers of a drive; the first is OK.
var numbers = []api.Errno{0, 110, 120, 121, 122, 111, 112, 91, 90, 70, 81, 1, 2, 3, 170, 181, 190, 160, 7, -1, -7, math.MaxInt, math.MinInt}

// shapes are such as have few drives.
func shapes() []api.Shape {
	return []api.Shape{{K: 1, M: 1, Block: 1}, small(), {K: 2, M: 2, Block: 3}, {K: 3, M: 1, Block: 2}, {K: 3, M: 2, Block: 4}}
}

// wantPut wants this number and this Last.
func wantPut(t *testing.T, set *api.Set, done <-chan struct{}, key, data string, want api.Errno, epoch, count int) {
	t.Helper()
	err := put.Put(set, done, key, []byte(data))
	fatalUnless(t, err == want && set.Last == api.Gen{Epoch: epoch, Count: count}, "Put %q = %d, not %d; Last %v", key, err, want, set.Last)
}

// The chapter's examples, row by row.
func TestExamples(t *testing.T) {
	set, w := ward(small(), 1000)
	wantPut(t, set, nil, "a", "hello", api.OK, 1, 1)
	wantPut(t, set, nil, "a", "more", api.ErrExists, 1, 1)

	for _, x := range w {
		x.Arm(nil)
	}
	wantPut(t, set, nil, "", "x", api.ErrKey, 1, 1)
	wantPut(t, set, nil, "b", strings.Repeat("x", 1048577), api.ErrLarge, 1, 1)
	wantNumber(t, "Put of no set", put.Put(nil, nil, "b", []byte("x")), api.ErrNil)
	two := &api.Set{Disks: set.Disks[:2], Shape: set.Shape, Store: set.Store, Last: set.Last}
	wantPut(t, two, nil, "b", "x", api.ErrArg, 1, 1)
	for i, x := range w {
		fatalUnless(t, x.Calls() == 0, "the drive %d was called", i)
	}

	w[1].Offline(true)
	wantPut(t, set, nil, "b", "x", api.ErrQuorum, 1, 2)
	for i, x := range w {
		_, err := x.Drive.Read("o62")
		fatalUnless(t, (err == api.OK) == (i != 1), "Read at the drive %d = %d", i, err)
	}
	wantPut(t, set, nil, "b", "y", api.ErrExists, 1, 2)
	wantPut(t, set, fan.Done(true), "c", "x", api.ErrStopped, 1, 2)

	w[1].Offline(false)
	w[0].Fuse(1, 2, 0)
	wantPut(t, set, nil, "d", "x", api.ErrDown, 1, 3)
	wantPut(t, set, nil, "e", "x", api.ErrDown, 1, 3)

	set.Last = api.Gen{Epoch: 1, Count: 4294967295}
	wantPut(t, set, nil, "f", "x", api.ErrWorn, 1, 4294967295)
}

// P19.1: each call of a drive by itself, of an object that is written.
func TestCallsInTheirOrder(t *testing.T) {
	s := sceneOf(small(), plain(3), "a", []byte("hello"))
	wantNumber(t, "Put", s.put(t), api.OK)
	// Of the head 32 bytes, their sum, the key, its sum; then the only block, of three bytes, and its sum.
	blocks := []string{"68656c", "6c6f00"}
	for i, d := range s.disks {
		asked := d.(*spy).asked
		fatalUnless(t, len(asked) == 10, "the drive %d was asked %q", i, asked)
		form := strings.TrimPrefix(asked[4], `Append "t" `)
		fatalUnless(t, strings.HasPrefix(form, "43524e020700000000000009020104000000"+"05000000"+fmt.Sprintf("%02x", i)+"03000000"+"06000000"+"01") && len(form) == 96, "the drive %d was handed %s", i, form)
		fatalUnless(t, form[72:74] == "61", "the drive %d was handed %s", i, form)
		fatalUnless(t, i == 2 || form[82:88] == blocks[i], "the drive %d was handed %s", i, form)
		asked[4] = `Append "t"`
		want := []string{`Read "o61"`, "Struck", "Rest false", `Create "t"`, `Append "t"`, `Sync "t"`, `Rename "t" "o61"`, "SyncDir", "Struck", "Rest false"}
		fatalUnless(t, slices.Equal(asked, want), "the drive %d was asked %q", i, asked)
	}
}

// wrongShapes may not be.
func wrongShapes() []api.Shape {
	return []api.Shape{
		{}, {K: 2, M: 0, Block: 4}, {K: 2, M: -1, Block: 4}, {K: 1, M: 2, Block: 4}, {K: 2, M: 1, Block: 0}, {K: 2, M: 1, Block: -1}, {K: 2, M: 1, Block: 65537},
		{K: 128, M: 128, Block: 4}, {K: 255, M: 1, Block: 4}, {K: -1, M: -1, Block: 4}, {K: 0, M: 0, Block: 4},
		{K: math.MaxInt, M: math.MaxInt, Block: 1}, {K: math.MinInt, M: math.MinInt, Block: 1}, {K: math.MaxInt, M: 3, Block: 1}, {K: 2, M: 1, Block: math.MaxInt},
	}
}

// P19.1: sets that may not be, of all kinds, ahead of all else that could be wrong: no drive is called.
func TestWrongSets(t *testing.T) {
	try := func(change func(set *api.Set), disks []subject) {
		t.Helper()
		for _, key := range []string{"a", "", strings.Repeat("k", 256)} {
			for _, size := range []int{0, 1, 1048577} {
				for _, closed := range []bool{false, true} {
					s := sceneOf(small(), disks, key, make([]byte, size))
					s.done = make(chan struct{})
					if closed {
						close(s.done)
					}
					change(s.set)
					last := s.set.Last
					wantNumber(t, fmt.Sprint("Put to ", s.set), s.put(t), api.ErrArg)
					fatalUnless(t, s.set.Last == last && !isSet(s.set), "Last became %v", s.set.Last)
				}
			}
		}
		for i, d := range disks {
			fatalUnless(t, d.chart() == "", "the drive %d was asked %s", i, d.chart())
		}
	}
	for _, shape := range wrongShapes() {
		for _, n := range []int{0, 1, 2, 3, 255, 256} {
			try(func(set *api.Set) { set.Shape = shape }, plain(n))
		}
	}
	for _, n := range []int{0, 1, 2, 4, 6, 255, 256} {
		try(func(*api.Set) {}, plain(n))
	}
	for _, epoch := range []int{0, -1, 4294967296, math.MaxInt, math.MinInt} {
		try(func(set *api.Set) { set.Last.Epoch = epoch }, plain(3))
		try(func(set *api.Set) { set.Last = api.Gen{Epoch: epoch, Count: 4294967295} }, plain(3))
	}
	for _, count := range []int{-1, 4294967296, math.MaxInt, math.MinInt} {
		try(func(set *api.Set) { set.Last.Count = count }, plain(3))
	}
}

// Every shape whose numbers are near their limits, with as many drives, one more and one fewer; none is there.
func TestEveryShape(t *testing.T) {
	none := make([]api.Disk, 600)
	met := map[api.Errno]int{}
	for k := -2; k < 260; k++ {
		for m := -2; m < 260; m++ {
			for _, block := range []int{-1, 0, 1, 65536, 65537} {
				for more := -1; more < 2; more++ {
					shape := api.Shape{K: k, M: m, Block: block}
					set := &api.Set{Disks: none[:max(0, k+m+more)], Shape: shape, Last: api.Gen{Epoch: 1}}
					want := api.ErrArg
					if isSet(set) {
						want = api.ErrQuorum // unknown: more than M places are silent
					}
					err := api.Errno(0)
					if want == api.ErrArg || (k+m)%16 == 0 || k+m > 253 {
						err = put.Put(set, nil, "a", nil)
					} else {
						err = put.Put(set, nil, "", nil)
						want = api.ErrKey
					}
					met[err]++
					if err != want {
						t.Fatalf("Put to %d drives of %v = %d, not %d", len(set.Disks), shape, err, want)
					}
				}
			}
		}
	}
	fatalUnless(t, met[api.ErrQuorum] > 1000 && met[api.ErrKey] > 1000 && len(met) == 3, "%v", met)
}

// P19.1: the edges of Last: all generations that a set may have are taken, but for the last Count.
func TestEdgesOfLast(t *testing.T) {
	for _, epoch := range []int{1, 2, 65536, 4294967294, 4294967295} {
		for _, count := range []int{0, 1, 2, 65535, 4294967293, 4294967294, 4294967295} {
			anew := func() scene {
				s := sceneOf(small(), plain(3), "a", []byte("x"))
				s.set.Last = api.Gen{Epoch: epoch, Count: count}
				return s
			}
			want := api.OK
			if count == 4294967295 {
				want = api.ErrWorn
			}
			wantNumber(t, fmt.Sprint("Put behind ", epoch, count), checkPut(t, anew), want)
		}
	}
}

// flaw is something for which a Put is refused.
type flaw struct {
	number api.Errno
	make   func(s *scene)
}

// P19.1: of several things that are wrong the first one is answered, whatever stands behind it.
func TestTheOrderOfErrors(t *testing.T) {
	flaws := []flaw{
		{api.ErrNil, func(s *scene) { s.set = nil }},
		{api.ErrArg, func(s *scene) { s.set.Disks = append(s.set.Disks, nil) }},
		{api.ErrKey, func(s *scene) { s.key = "" }},
		{api.ErrLarge, func(s *scene) { s.data = make([]byte, 2*4*4096+1) }},
		{api.ErrWorn, func(s *scene) { s.set.Last.Count = api.MaxCount }},
		{api.ErrStopped, func(s *scene) { close(s.done) }},
		{api.ErrDown, func(s *scene) { s.disks[2].(*spy).errs = map[int]api.Errno{0: api.ErrDown} }},
		{api.ErrExists, func(s *scene) {
			shards := shardsOf(api.Head{Store: [8]byte{7, 7: 9}, Shape: small(), Key: "a", Gen: api.Gen{Epoch: 1, Count: 1}}, []byte("x"))
			for i := range 2 {
				s.disks[i].(*spy).bytes = formOf(shards[i])
			}
		}},
	}
	for subset := range 1 << len(flaws) {
		want := api.OK
		anew := func() scene {
			s := sceneOf(small(), plain(3), "a", []byte("x"))
			s.done = make(chan struct{})
			for i, f := range slices.Backward(flaws) {
				if subset>>i&1 == 1 {
					f.make(&s)
					want = f.number
				}
			}
			return s
		}
		got := checkPut(t, anew)
		wantNumber(t, fmt.Sprintf("Put with %b", subset), got, want)
	}
}

// P19.1: what is refused ahead of any round does not look at done: what it holds, or who waits to send on it, stays.
func TestDoneIsNotLookedAt(t *testing.T) {
	for _, change := range []func(s *scene){
		func(s *scene) { s.set = nil },
		func(s *scene) { s.set.Shape.K = 3 },
		func(s *scene) { s.key = "" },
		func(s *scene) { s.data = make([]byte, 2*4*4096+1) },
		func(s *scene) { s.set.Last.Count = api.MaxCount },
	} {
		s := sceneOf(small(), plain(3), "a", nil)
		s.done = make(chan struct{})
		change(&s)
		ready, sent := make(chan struct{}), make(chan struct{})
		go func() {
			close(ready)
			s.done <- struct{}{}
			close(sent)
		}()
		<-ready
		time.Sleep(2 * time.Millisecond)
		err := s.put(t)
		select {
		case <-sent:
			t.Fatalf("Put = %d has received from done", err)
		case <-time.After(time.Millisecond):
		}
		<-s.done
		fatalUnless(t, err != api.OK && err != api.ErrStopped, "Put = %d", err)
	}
}

// P19.1: keys of each number of bytes, and of any bytes; each has its own file.
func TestKeys(t *testing.T) {
	var any256 []byte
	for i := range 256 {
		any256 = append(any256, byte(i))
	}
	keys := []string{"", "\x00", "\xff", "o61", "t", "l", "a/b", "ä", string(any256), string(any256[1:]), string(any256[:255])}
	for n := range 300 {
		keys = append(keys, strings.Repeat("k", n))
	}
	for _, key := range keys {
		want := api.OK
		if len(key) < 1 || len(key) > 255 {
			want = api.ErrKey
		}
		wantNumber(t, fmt.Sprintf("Put of %q", key), checkPut(t, func() scene { return sceneOf(small(), plain(3), key, []byte("x")) }), want)
	}
}

// P19.1: objects that just fit, and such as are one byte greater.
func TestFits(t *testing.T) {
	for _, x := range []struct {
		shape    api.Shape
		greatest int
	}{
		{api.Shape{K: 1, M: 1, Block: 1}, 4096},
		{api.Shape{K: 2, M: 1, Block: 4}, 32768},
		{api.Shape{K: 2, M: 2, Block: 127}, 1040384},
		{api.Shape{K: 2, M: 2, Block: 128}, 1048576},
		{api.Shape{K: 2, M: 1, Block: 65536}, 1048576},
		{api.Shape{K: 254, M: 1, Block: 1}, 1040384},
		{api.Shape{K: 254, M: 1, Block: 2}, 1048576},
		{api.Shape{K: 128, M: 127, Block: 2}, 1048576},
	} {
		n := x.shape.K + x.shape.M
		for _, size := range []int{0, 1, x.greatest - 1, x.greatest, x.greatest + 1, 1048576, 1048577, 3000000} {
			want := api.OK
			if size > x.greatest {
				want = api.ErrLarge
			}
			if n > 10 && want == api.OK && size != x.greatest {
				continue
			}
			data := make([]byte, size)
			for i := range data {
				data[i] = byte(i * i >> 3)
			}
			s := sceneOf(x.shape, wards(n, 2<<20), "a", data)
			wantNumber(t, fmt.Sprint("Put of ", size, " to ", x.shape), s.put(t), want)
			for i, d := range s.disks {
				if want != api.OK {
					fatalUnless(t, d.(patient).Calls() == 0, "the drive %d was called", i)
				}
			}
			if want == api.OK {
				shards := shardsOf(api.Head{Store: s.set.Store, Shape: x.shape, Key: "a", Gen: s.set.Last}, data)
				for i, d := range s.disks {
					safe := d.(patient).Safe()
					fatalUnless(t, len(safe) == 1 && safe[0].Name == "o61" && bytes.Equal(safe[0].Data, formOf(shards[i])), "the drive %d holds another file", i)
				}
			}
		}
	}
}

// wards are so many wounds over empty drives of that room.
func wards(n, room int) []subject {
	var l []subject
	for range n {
		l = append(l, patient{wound.New(drive.New(room))})
	}
	return l
}

// exhibit is what a place shows of the key "a" in a store of that shape, at that place; nil: there is no drive.
type exhibit func(shape api.Shape, place int) *spy

// stored shows the shard of a writing, whose head is first changed.
func stored(gen api.Gen, data string, change func(h *api.Head)) exhibit {
	return func(shape api.Shape, place int) *spy {
		h := api.Head{Store: [8]byte{7, 7: 9}, Shape: shape, Key: "a", Gen: gen}
		change(&h)
		forms := formsOf(h, data)
		return &spy{bytes: slices.Clone(forms[min(place, len(forms)-1)])}
	}
}

// text is an object with its head.
type text struct {
	head api.Head
	data string
}

var made = map[text][][]byte{}

// formsOf are the bytes of the files of an object, which are made once: a great shape takes its time.
func formsOf(h api.Head, data string) [][]byte {
	if _, is := made[text{h, data}]; !is {
		var forms [][]byte
		for _, s := range shardsOf(h, []byte(data)) {
			forms = append(forms, formOf(s))
		}
		made[text{h, data}] = forms
	}
	return made[text{h, data}]
}

// spoiled is an exhibit whose bytes are changed.
func spoiled(of exhibit, change func(b []byte) []byte) exhibit {
	return func(shape api.Shape, place int) *spy {
		s := of(shape, place)
		s.bytes = change(s.bytes)
		return s
	}
}

// refused is an exhibit whose Read answers this number, beside its bytes.
func refused(of exhibit, number api.Errno) exhibit {
	return func(shape api.Shape, place int) *spy {
		s := of(shape, place)
		s.errs = map[int]api.Errno{0: number}
		return s
	}
}

func asItIs(*api.Head) {}

func nothing(api.Shape, int) *spy { return &spy{} }

func nobody(api.Shape, int) *spy { return nil }

// The writings that stand there; the last one is newer than the set's Last.
var (
	older  = stored(api.Gen{Epoch: 1, Count: 9}, "hello", asItIs)
	longer = stored(api.Gen{Epoch: 1, Count: 9}, "hello!", asItIs)
	newer  = stored(api.Gen{Epoch: 2, Count: 1}, "hello", asItIs)
	future = stored(api.Gen{Epoch: 9, Count: 9}, "", asItIs)
)

// few are exhibits of each kind that a Judge tells apart.
func few() []exhibit {
	return []exhibit{nobody, nothing, older, longer, newer, spoiled(older, func(b []byte) []byte { return b[1:] }), refused(older, api.ErrIO), refused(older, api.ErrDown)}
}

// many are exhibits of all kinds.
func many() []exhibit {
	all := append(few(), future,
		stored(api.Gen{Epoch: 1, Count: 9}, "hello", func(h *api.Head) { h.Store[3] = 1 }),
		stored(api.Gen{Epoch: 1, Count: 9}, "hello", func(h *api.Head) { h.Shape.Block++ }),
		stored(api.Gen{Epoch: 1, Count: 9}, "hello", func(h *api.Head) { h.Shape.K = min(h.Shape.K+1, 255-h.Shape.M) }),
		stored(api.Gen{Epoch: 1, Count: 9}, "hello", func(h *api.Head) { h.Key = "b" }),
		stored(api.Gen{Epoch: 1, Count: 9}, "hello", func(h *api.Head) { h.Key = "aa" }),
		func(shape api.Shape, place int) *spy { return older(shape, (place+1)%(shape.K+shape.M)) },
		spoiled(older, func([]byte) []byte { return []byte{} }),
		spoiled(older, func(b []byte) []byte { return append(b, 0) }),
		spoiled(older, func(b []byte) []byte { return b[:len(b)-1] }),
		spoiled(older, func(b []byte) []byte { b[len(b)-5] ^= 1; return b }),
		spoiled(older, func(b []byte) []byte { b[20] ^= 1; return b }),
	)
	for _, number := range numbers {
		all = append(all, refused(older, number), refused(nothing, number))
	}
	return all
}

// gallery is a scene of which each place shows what the list says.
func gallery(shape api.Shape, l []exhibit) scene {
	return sceneOf(shape, spies(len(l), func(i int) *spy { return l[i](shape, i) }), "a", []byte("world"))
}

// P19.1: whatever the places show, in every way in small stores.
func TestWhateverPlacesShow(t *testing.T) {
	met := map[api.Errno]int{}
	for _, x := range []struct {
		shapes []api.Shape
		shows  []exhibit
	}{
		{[]api.Shape{{K: 1, M: 1, Block: 1}}, many()},
		{[]api.Shape{{K: 1, M: 1, Block: 9}, small(), {K: 2, M: 2, Block: 3}, {K: 3, M: 1, Block: 2}}, few()},
	} {
		for _, shape := range x.shapes {
			n := shape.K + shape.M
			every(n, len(x.shows), func(numbers []int) {
				var l []exhibit
				for _, number := range numbers {
					l = append(l, x.shows[number])
				}
				met[checkPut(t, func() scene { return gallery(shape, l) })]++
			})
		}
	}
	for _, err := range []api.Errno{api.OK, api.ErrQuorum, api.ErrExists, api.ErrDown} {
		fatalUnless(t, met[err] > 100 && len(met) == 4, "%d: %d times of %v", err, met[err], met)
	}
}

// every hands over all lists of n numbers below m.
func every(n, m int, each func([]int)) {
	l := make([]int, n)
	for {
		each(l)
		i := 0
		for i < n && l[i] == m-1 {
			l[i] = 0
			i++
		}
		if i == n {
			return
		}
		l[i]++
	}
}

// P19.1: places of great stores and of others show all kinds of things.
func TestPlacesShowMany(t *testing.T) {
	r := source(191)
	met := map[api.Errno]int{}
	great := []api.Shape{{K: 253, M: 1, Block: 1}, {K: 128, M: 127, Block: 2}, {K: 10, M: 10, Block: 2}, {K: 20, M: 3, Block: 7}}
	shows := many()
	for run := range 5000 {
		shape := pick(r, shapes()...)
		if run%60 == 0 {
			shape = pick(r, great...)
		}
		n := shape.K + shape.M
		l := slices.Repeat([]exhibit{pick(r, nothing, nothing, older, longer)}, n)
		some := pick(r, 0, 1, shape.M-1, shape.M, shape.M+1, shape.K-1, shape.K, r.Intn(n+1))
		one := pick(r, shows...)
		for _, i := range r.Perm(n)[:some] {
			l[i] = one
			if run%3 == 0 {
				l[i] = pick(r, shows...)
			}
		}
		met[checkPut(t, func() scene { return gallery(shape, l) })]++
	}
	for _, err := range []api.Errno{api.OK, api.ErrQuorum, api.ErrExists, api.ErrDown} {
		fatalUnless(t, met[err] > 100 && len(met) == 4, "%d: %d times of %v", err, met[err], met)
	}
}

// P19.1: the edges of what a Look comes to, in every small shape: K - 1 and K shards, M and M + 1 places that are hidden.
func TestEdgesOfTheLook(t *testing.T) {
	for _, shape := range shapes() {
		n := shape.K + shape.M
		for shards := range n + 1 {
			for hidden := range n + 1 - shards {
				for _, veil := range []exhibit{nobody, refused(nothing, api.ErrOffline), spoiled(older, func([]byte) []byte { return []byte{1} })} {
					want := api.OK
					switch {
					case shards >= shape.K:
						want = api.ErrExists
					case hidden > shape.M:
						want = api.ErrQuorum
					}
					l := slices.Concat(slices.Repeat([]exhibit{older}, shards), slices.Repeat([]exhibit{veil}, hidden), slices.Repeat([]exhibit{nothing}, n-shards-hidden))
					s := gallery(shape, l)
					last := s.set.Last
					err := s.put(t)
					if want == api.OK {
						last.Count++
						if veil(shape, 0) == nil && n-hidden < shape.K+1 {
							want = api.ErrQuorum // too few are written
						}
					}
					fatalUnless(t, err == want && s.set.Last == last, "%v, %d shards, %d hidden: Put = %d, not %d; Last %v", shape, shards, hidden, err, want, s.set.Last)
				}
			}
		}
	}
}

// P19.1: at each drive each call of the writing is refused with each number.
func TestEachCallRefused(t *testing.T) {
	met := map[api.Errno]int{}
	for _, shape := range shapes() {
		for faulty := range shape.K + shape.M {
			for call := range 8 { // the last two are not made
				for _, number := range numbers {
					met[checkPut(t, func() scene {
						return sceneOf(shape, spies(shape.K+shape.M, func(i int) *spy {
							if i == faulty {
								return &spy{errs: map[int]api.Errno{call: number}}
							}
							return &spy{}
						}), "a", []byte("hello world"))
					})]++
				}
			}
		}
	}
	for _, err := range []api.Errno{api.OK, api.ErrQuorum, api.ErrDown} {
		fatalUnless(t, met[err] > 50, "%d: %d times of %v", err, met[err], met)
	}
}

// P19.1: how many drives must have answered OK: K + 1, whichever they are; one that is not there does not.
func TestHowManyMustAnswer(t *testing.T) {
	for _, shape := range shapes() {
		n := shape.K + shape.M
		every(n, 4, func(ways []int) {
			well, gone, down := 0, 0, false
			for _, way := range ways {
				switch way {
				case 0:
					well++
				case 2:
					gone++
				case 3:
					down = true
				}
			}
			want := api.ErrQuorum
			switch {
			case gone > shape.M: // the Look is unknown
			case down:
				want = api.ErrDown
			case well > shape.K:
				want = api.OK
			}
			call := 1 + (well+2*gone+ways[0])%5
			got := checkPut(t, func() scene {
				return sceneOf(shape, spies(n, func(i int) *spy {
					return []*spy{{}, {errs: map[int]api.Errno{call: api.ErrFull}}, nil, {errs: map[int]api.Errno{call: api.ErrDown}}}[ways[i]]
				}), "a", []byte("x"))
			})
			wantNumber(t, fmt.Sprint("Put with ", ways), got, want)
		})
	}
}

// P19.1: a drive that answers ErrDown ends the round, whatever the others say and however many answered OK.
func TestErrDown(t *testing.T) {
	for _, shape := range shapes() {
		n := shape.K + shape.M
		for down := range n {
			for call := range 6 {
				for _, other := range []exhibit{nothing, older, refused(nothing, api.ErrIO)} {
					anew := func() scene {
						return sceneOf(shape, spies(n, func(i int) *spy {
							if i == down {
								return &spy{errs: map[int]api.Errno{call: api.ErrDown}}
							}
							return other(shape, i)
						}), "a", nil)
					}
					got := checkPut(t, anew)
					fatalUnless(t, call > 0 || got == api.ErrDown, "Put = %d", got)
				}
				s := sceneOf(shape, spies(n, func(i int) *spy {
					if i == down {
						return &spy{errs: map[int]api.Errno{call: api.ErrDown}}
					}
					return &spy{}
				}), "a", nil)
				wantNumber(t, "Put", s.put(t), api.ErrDown)
				fatalUnless(t, s.set.Last.Count == 5+min(1, call), "ErrDown at the call %d: Last %v", call, s.set.Last)
			}
		}
	}
}

// The power goes at each call of each drive in each round: the others go through to their end, then it is off at all. At a round's end it goes unseen by that round.
func TestThePower(t *testing.T) {
	for struck := range 4 {
		for round := range 3 {
			for call := range 7 {
				for _, inside := range []int{0, 1, 30, 48, 99} {
					anew := func() scene {
						l := wards(4, 200)
						l[struck].(patient).Fuse(round, call, inside)
						return sceneOf(api.Shape{K: 2, M: 2, Block: 4}, l, "a", []byte("hello"))
					}
					want, count := api.ErrDown, 6
					switch {
					case round == 0:
						count = 5 // at the Read, or ahead of the writing, whose calls are refused
						if call > 0 {
							count = 6
						}
					case round == 2 || call > 4:
						want = api.OK
					}
					s := anew()
					err := s.put(t)
					fatalUnless(t, err == want && s.set.Last.Count == count, "struck in round %d ahead of call %d: Put = %d, not %d; Last %v", round, call, err, want, s.set.Last)
					wantNumber(t, "Put", checkPut(t, anew), want)
					for i, d := range s.disks {
						fatalUnless(t, d.(patient).On() == (round == 2), "the power at the drive %d: %v", i, d.(patient).On())
						_, no := d.(patient).Drive.Read("o61")
						if i != struck && round == 1 {
							wantNumber(t, "Read", no, api.OK)
						}
					}
				}
			}
		}
	}
}

// P19.1: it is looked whether it is stopped once at the beginning of each round, and never else.
func TestStopped(t *testing.T) {
	for at := range 3 { // ahead, behind the first round, behind the second one
		for _, way := range []string{"close", "hold"} {
			stop := func(done chan struct{}) {
				if way == "close" {
					close(done)
				} else {
					done <- struct{}{}
				}
			}
			anew := func() scene {
				done := make(chan struct{}, 1)
				l := plain(3)
				l[1].(*spy).over = func(round int) {
					if round == at {
						stop(done)
					}
				}
				if at == 0 {
					stop(done)
				}
				s := sceneOf(small(), l, "a", []byte("x"))
				s.done = done
				return s
			}
			want, count := api.ErrStopped, 5
			switch at {
			case 1:
				count = 6
			case 2:
				want, count = api.OK, 6
			}
			wantNumber(t, "Put", checkPut(t, anew), want)
			s := anew()
			err := s.put(t)
			fatalUnless(t, err == want && s.set.Last.Count == count, "%s behind %d rounds: Put = %d; Last %v", way, at, err, s.set.Last)
			for i, d := range s.disks {
				fatalUnless(t, d.(*spy).rounds == at, "%s behind %d rounds: the drive %d was in %d", way, at, i, d.(*spy).rounds)
			}
			fatalUnless(t, way == "close" || len(s.done) == 1, "what done holds was taken")
		}
	}
}

// A stop behind a Look that refuses says nothing: what the Look comes to is answered.
func TestStoppedBehindALookThatRefuses(t *testing.T) {
	for _, x := range []struct {
		shows exhibit
		want  api.Errno
	}{{older, api.ErrExists}, {refused(nothing, api.ErrIO), api.ErrQuorum}, {refused(nothing, api.ErrDown), api.ErrDown}} {
		s := gallery(small(), []exhibit{x.shows, x.shows, x.shows})
		done := make(chan struct{})
		s.done = done
		s.disks[2].(*spy).over = func(int) { close(done) }
		wantNumber(t, "Put", s.put(t), x.want)
		fatalUnless(t, s.set.Last.Count == 5, "Last became %v", s.set.Last)
	}
}

// Who is told that a round is over, and that the power is gone, in each round.
func TestWhoIsStruck(t *testing.T) {
	for struck := range 5 {
		for round := range 4 {
			checkPut(t, func() scene {
				return sceneOf(api.Shape{K: 3, M: 2, Block: 4}, spies(5, func(i int) *spy {
					switch i {
					case 3:
						return nil
					case struck:
						return &spy{struck: round}
					}
					return &spy{}
				}), "a", []byte("x"))
			})
		}
	}
}

// Wounds with plans, offline, with fuses and full ones: Put does to them what the words do, and answers the same, call by call.
func TestSomeWounds(t *testing.T) {
	met := map[api.Errno]int{}
	for seed := range int64(6000) {
		shape := shapes()[seed%int64(len(shapes()))]
		n := shape.K + shape.M
		anew := func() scene {
			r := source(seed)
			l := make([]subject, n)
			for i := range l {
				if r.Intn(12) > 0 {
					l[i] = someWound(r, shape, i)
				}
			}
			return sceneOf(shape, l, "a", make([]byte, r.Intn(40)))
		}
		met[checkPut(t, anew)]++
	}
	for _, err := range []api.Errno{api.OK, api.ErrQuorum, api.ErrExists, api.ErrDown} {
		fatalUnless(t, met[err] > 100 && len(met) == 4, "%d: %d times of %v", err, met[err], met)
	}
}

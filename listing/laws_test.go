package listing_test

import (
	"fmt"
	"math/rand"
	"slices"
	"strings"
	"testing"

	"cairn/api"
	"cairn/drive"
	"cairn/drop"
	"cairn/get"
	"cairn/listing"
	"cairn/opening"
	"cairn/put"
	"cairn/wound"
)

// the keys that stand on the drives of some world, each on some of them.
var someKeys = []string{"a", "a/b", "a/c", "b", "\xff"}

// someWound is a drive on which this and that stands and has happened, and may happen still.
func someWound(r *rand.Rand, shape api.Shape, place int) patient {
	files := []api.File{{Name: "l", Data: []byte("label")}, {Name: "o62", Data: make([]byte, r.Intn(50))}, {Name: "t"}, {Name: "zzz"}}
	for _, key := range someKeys {
		s := shelf(shape, place, key)
		if key == "a" {
			s = pick(r, oldOne, oldOne, oldOne, oldOne, youngOne, futureOne)(shape, place)
		}
		if r.Intn(6) > 0 {
			files = slices.DeleteFunc(files, func(f api.File) bool { return f.Name == nameOf(key) })
			files = append(files, api.File{Name: nameOf(key), Data: s.files[nameOf(key)]})
		}
	}
	d := drive.Load(20000, files)
	switch r.Intn(4) { // changes that are not safe
	case 0:
		d.Create("o63")
		d.Append("o63", make([]byte, r.Intn(20)))
		d.Rename("o62", "t")
		d.Remove("zzz")
	case 1:
		d.Create("o61")
		d.Append("o61", oldOne(shape, place).files["o61"])
	}
	w := wound.New(d)
	switch r.Intn(16) {
	case 0:
		w.Offline(true)
	case 1, 2:
		w.Arm([]api.Fault{{At: r.Intn(6), Kind: api.FaultIO}, {At: r.Intn(6), Kind: api.FaultFull}})
	case 3:
		w.Fuse(r.Intn(3), r.Intn(6), r.Intn(60))
	case 4:
		w.Cut(nameOf(pick(r, someKeys...)), r.Intn(60))
	case 5:
		w.Flip(nameOf(pick(r, someKeys...)), r.Intn(60), []byte{1, 2, 3})
	}
	return patient{w}
}

// someWorld is a scene of wounds to which this and that happens.
func someWorld(seed int64) scene {
	r := source(seed)
	shape := pick(r, append(shapes(), api.Shape{K: 5, M: 4, Block: 16})...)
	l := make([]subject, shape.K+shape.M)
	for i := range l {
		if r.Intn(12) > 0 {
			l[i] = someWound(r, shape, i)
		}
	}
	s := sceneOf(shape, l)
	s.query = api.Query{Prefix: pick(r, "", "", "", "a", "a/", "b", "x"), Delim: pick[int](r, -1, '/'), Limit: pick(r, 1, 2, 1000)}
	return s
}

// beginning are the keys of a list that begin with the prefix.
func beginning(keys []string, prefix string) []string {
	var l []string
	for _, key := range keys {
		if strings.HasPrefix(key, prefix) {
			l = append(l, key)
		}
	}
	return l
}

// calm is a scene of drives to which nothing happens: they answer each call as they did before, some of them never.
func calm(seed int64) scene {
	s := someWorld(seed)
	for _, d := range s.disks {
		if d != nil {
			d.(patient).Arm(nil)
			d.(patient).Fuse(-1, 0, 0)
		}
	}
	return s
}

// P22.4: a prefix's list is a part of the whole one, whatever stands on the drives.
func TestAPrefixIsAPart(t *testing.T) {
	met := map[string]int{}
	for seed := range int64(3000) {
		s := calm(seed)
		whole, err := listing.List(s.set, nil, "")
		for _, prefix := range []string{"", "a", "a/", "a/b", "b", "c", "\xff", "\xff\xff", "\x00", "A", "o61", strings.Repeat("a", 256)} {
			keys, no := listing.List(s.set, nil, prefix)
			fatalUnless(t, no == err && slices.Equal(keys, beginning(whole, prefix)), "List %q = %q, %d; the whole one %q, %d", prefix, keys, no, whole, err)
			met[fmt.Sprint(int(no), " ", min(2, len(keys)))]++
		}
	}
	for _, what := range []string{"0 0", "0 1", "0 2", "170 0"} {
		fatalUnless(t, met[what] > 100, "%s: %v", what, met)
	}
}

// valued are those of the keys of which Look says that they have a value.
func valued(t *testing.T, set *api.Set, keys []string) []string {
	t.Helper()
	var l []string
	for _, key := range keys {
		v, _, err := get.Look(set, nil, key)
		wantNumber(t, "Look", err, api.OK)
		if v.Kind == api.IsValue {
			l = append(l, key)
		}
	}
	slices.Sort(l)
	return l
}

// spoilHead makes of a shard bytes of which not even the head is read.
func spoilHead(r *rand.Rand, b []byte) []byte {
	b = slices.Clone(b)
	switch r.Intn(3) {
	case 0:
		return b[:r.Intn(30)]
	case 1:
		b[r.Intn(30)] ^= byte(1 << r.Intn(8))
		return b
	default:
		return make([]byte, r.Intn(60))
	}
}

// P22.4: where each object's file is a whole shard, or not even its head is read, List tells what Look does: shards of all kinds, also such as stand at a wrong place or under a wrong key.
func TestWhatIsListedHasAValue(t *testing.T) {
	r := source(227)
	met := map[string]int{}
	keys := []string{"a", "a/b", "b", "c", "\x00"}
	for run := range 4000 {
		shape := shapes()[run%len(shapes())]
		n := shape.K + shape.M
		s := sceneOf(shape, spies(n, func(place int) *spy {
			if r.Intn(15) == 0 {
				return nil
			}
			d := &spy{}
			for _, key := range keys {
				if r.Intn(6) == 0 {
					continue
				}
				h := api.Head{Store: theStore(), Shape: shape, Key: key, Gen: api.Gen{Epoch: 1, Count: 1}}
				data, at := "of "+key, place
				switch r.Intn(20) {
				case 0:
					h.Store[0]++
				case 1:
					h.Shape.Block++
				case 2:
					h.Key = pick(r, keys...)
				case 3, 4:
					h.Gen.Count++
				case 5:
					data = "another"
				case 6:
					at = r.Intn(n)
				}
				b := formsOf(h, data)[at]
				if r.Intn(10) == 0 {
					b = spoilHead(r, b)
				}
				d.lay(key, b)
			}
			if r.Intn(15) == 0 {
				d.list = api.ErrOffline
				for _, key := range keys {
					d.fail(key, api.ErrOffline)
				}
			}
			return d
		}))
		for _, prefix := range []string{"", "a"} {
			got, err := listing.List(s.set, nil, prefix)
			if err == api.ErrQuorum {
				fatalUnless(t, len(valued(t, s.set, keys)) == 0, "List = ErrQuorum, and there are values")
			} else {
				want := beginning(valued(t, s.set, keys), prefix)
				fatalUnless(t, err == api.OK && slices.Equal(got, want), "List %q = %q, %d, not %q", prefix, got, err, want)
			}
			met[fmt.Sprint(int(err), " ", len(got))]++
		}
	}
	for _, what := range []string{"0 0", "0 1", "0 2", "0 3", "0 4", "0 5", "170 0"} {
		fatalUnless(t, met[what] > 30, "%s: %v", what, met)
	}
}

// By its head alone a key is told, of which Look can't: so are those with a block that is spoilt.
func TestABlockThatIsSpoilt(t *testing.T) {
	set, w := laid(t, "a", "b")
	for i := range 2 {
		w[i].Flip("o61", 45, []byte{1})
	}
	wantList(t, set, "", []string{"a", "b"}, api.OK)
	v, _, _ := get.Look(set, nil, "a")
	fatalUnless(t, v.Kind == api.IsUnknown, "Look = %v", v)
	for i := range 2 {
		w[i].Flip("o61", 4, []byte{1})
	}
	wantList(t, set, "", []string{"b"}, api.OK)
}

// walk goes from page to page, and wants each one but the last to be full. It answers all entries as they were told, and the groups among them.
func walk(t *testing.T, set *api.Set, q api.Query) (entries, groups []string) {
	t.Helper()
	for pages := 0; ; pages++ {
		page, err := listing.Page(set, nil, q)
		wantNumber(t, "Page", err, api.OK)
		of := slices.Concat(page.Keys, page.Groups)
		slices.Sort(of)
		fatalUnless(t, slices.IsSorted(page.Keys) && slices.IsSorted(page.Groups), "Page %+v = %+v", q, page)
		entries, groups = append(entries, of...), append(groups, page.Groups...)
		if !page.More {
			fatalUnless(t, len(of) <= q.Limit && page.Next == "" && (len(of) > 0 || pages == 0), "the last page of %+v: %+v", q, page)
			return entries, groups
		}
		fatalUnless(t, len(of) == q.Limit && page.Next == of[len(of)-1], "a page of %+v, and not the last: %+v", q, page)
		q.After = page.Next
		fatalUnless(t, pages < 10000, "%+v: there is no end", q)
	}
}

// wantWhole wants the pages of a query to be the whole.
func wantWhole(t *testing.T, set *api.Set, q api.Query) {
	t.Helper()
	keys, err := listing.List(set, nil, q.Prefix)
	wantNumber(t, "List", err, api.OK)
	var entries, groups []string
	for _, key := range keys {
		entry, group := entryByHand(key, q)
		if entry > q.After && (len(entries) == 0 || entries[len(entries)-1] != entry) {
			entries = append(entries, entry)
			if group {
				groups = append(groups, entry)
			}
		}
	}
	fatalUnless(t, slices.IsSorted(entries) && len(slices.Compact(slices.Clone(entries))) == len(entries), "%q", entries)
	told, of := walk(t, set, q)
	fatalUnless(t, slices.Equal(told, entries) && slices.Equal(of, groups), "%+v: the pages tell %q with the groups %q, not %q with %q", q, told, of, entries, groups)
}

// P22.5: pages are the whole, with each limit, of stores of all kinds of keys.
func TestPagesAreTheWhole(t *testing.T) {
	r := source(228)
	for range 60 {
		var keys []string
		for range r.Intn(40) {
			key := make([]byte, 1+r.Intn(6))
			for i := range key {
				key[i] = pick[byte](r, 'a', 'b', '/', '/', 0, 255, '0')
			}
			keys = append(keys, string(key))
		}
		slices.Sort(keys)
		keys = slices.Compact(keys)
		set, _ := laid(t, keys...)
		for range 40 {
			q := api.Query{
				Prefix: pick(r, "", "", "a", "a/", "/", "\xff"),
				After:  pick(r, "", "", "", "a/", "b", "a/b"),
				Delim:  pick[int](r, -1, '/', '/', '/', 'a', 0, 255),
				Limit:  pick(r, 1, 1, 2, 3, 7, len(keys)+1, 1000),
			}
			wantWhole(t, set, q)
		}
	}
}

// P22.5: likewise, whatever stands on the drives, while nothing is done to them.
func TestPagesAreTheWholeOfWhatever(t *testing.T) {
	wholes := 0
	for seed := range int64(2000) {
		s := calm(seed)
		if _, err := listing.List(s.set, nil, ""); err != api.OK {
			continue
		}
		wholes++
		for limit := 1; limit < 4; limit++ {
			q := s.query
			q.Limit = limit
			wantWhole(t, s.set, q)
		}
	}
	fatalUnless(t, wholes > 1000, "%d", wholes)
}

// P22.5: pages of many keys, more than the greatest limit.
func TestPagesOfMany(t *testing.T) {
	var keys []string
	for i := range 2500 {
		keys = append(keys, fmt.Sprintf("%d/%d", i%50, i))
	}
	s := shelves(api.Shape{K: 1, M: 1, Block: 64}, keys...)
	for _, q := range []api.Query{{Delim: -1, Limit: 1000}, {Delim: -1, Limit: 999}, {Delim: '/', Limit: 7}, {Delim: '/', Limit: 50}, {Prefix: "7/", Delim: '/', Limit: 25}, {Prefix: "7", Delim: -1, Limit: 26}} {
		wantWhole(t, s.set, q)
	}
	slices.Sort(keys)
	told, groups := walk(t, s.set, api.Query{Delim: -1, Limit: 1000})
	fatalUnless(t, slices.Equal(told, keys) && len(groups) == 0, "%d keys", len(told))
	told, groups = walk(t, s.set, api.Query{Delim: '/', Limit: 9})
	fatalUnless(t, len(told) == 50 && slices.Equal(told, groups), "%q", told)
}

// possible is what a key may come to: some values, and absent.
type possible struct {
	values int
	absent bool
}

// world is a store that was formatted, over drives some of which are at fault now and then.
type world struct {
	set    *api.Set
	w      []*witness
	faulty []int
	p      map[string]possible
}

// witness is a drive that notes how often it was asked to take something away.
type witness struct {
	*wound.Wound
	removes int
}

func (w *witness) Remove(name string) api.Errno {
	w.removes++
	return w.Wound.Remove(name)
}

func newWorld(t *testing.T, r *rand.Rand, shape api.Shape) *world {
	t.Helper()
	x := &world{p: map[string]possible{}, faulty: r.Perm(shape.K + shape.M)[:r.Intn(shape.M+1)]}
	for range shape.K + shape.M {
		x.w = append(x.w, &witness{Wound: wound.New(drive.New(1 << 20))})
	}
	wantNumber(t, "Format", opening.Format(x.disks(), shape, theStore()), api.OK)
	for _, key := range someKeys {
		x.p[key] = possible{absent: true}
	}
	x.open(t)
	return x
}

func (x *world) disks() []api.Disk {
	var l []api.Disk
	for _, w := range x.w {
		l = append(l, w)
	}
	return l
}

func (x *world) open(t *testing.T) {
	t.Helper()
	set, err := opening.Open(x.disks())
	wantNumber(t, "Open", err, api.OK)
	x.set = set
}

// someFate is what a loss of power keeps.
func someFate(r *rand.Rand) api.Fate {
	f := api.Fate{Dirs: make([]bool, r.Intn(10)), Cuts: make([]int, r.Intn(8))}
	for i := range f.Dirs {
		f.Dirs[i] = r.Intn(2) == 0
	}
	for i := range f.Cuts {
		f.Cuts[i] = pick(r, 0, 1, 30, 31, 99, -1)
	}
	return f
}

// lose is a loss of power, and the opening behind it.
func (x *world) lose(t *testing.T, r *rand.Rand) {
	t.Helper()
	for _, w := range x.w {
		w.Crash(someFate(r))
		w.Fuse(-1, 0, 0)
		w.Power(true)
	}
	x.open(t)
}

// misfortune is something that happens to a drive that is at fault.
func misfortune(r *rand.Rand, w *wound.Wound) {
	name := nameOf(pick(r, someKeys...))
	switch r.Intn(12) {
	case 0:
		w.Offline(true)
	case 1:
		w.Arm([]api.Fault{{At: r.Intn(9), Kind: api.FaultIO}, {At: r.Intn(9), Kind: api.FaultFull}})
	case 2:
		w.Flip(name, r.Intn(50), []byte{1 << r.Intn(8)})
	case 3:
		w.Cut(name, r.Intn(30))
	case 4:
		w.Wipe()
	case 5, 6, 7:
		w.Offline(false)
	}
}

// put puts something, and keeps what is possible behind it.
func (x *world) put(r *rand.Rand, key string) {
	p, last := x.p[key], x.set.Last
	err := put.Put(x.set, nil, key, make([]byte, r.Intn(30)))
	switch {
	case err == api.OK:
		x.p[key] = possible{values: 1}
	case x.set.Last != last: // an error of its writing
		x.p[key] = possible{p.values + 1, p.absent}
	}
}

// delete deletes, and keeps what is possible behind it.
func (x *world) delete(key string) {
	asked := 0
	for _, w := range x.w {
		asked -= w.removes
	}
	err := drop.Delete(x.set, nil, key)
	for _, w := range x.w {
		asked += w.removes
	}
	switch {
	case err == api.OK:
		x.p[key] = possible{absent: true}
	case asked > 0: // an error of its round of taking away
		x.p[key] = possible{x.p[key].values, true}
	}
}

// wantPossible wants of a list that it rises, has each key with that prefix that can't be absent, and none that must be.
func (x *world) wantPossible(t *testing.T, prefix string, keys []string) {
	t.Helper()
	fatalUnless(t, slices.IsSorted(keys) && len(slices.Compact(slices.Clone(keys))) == len(keys), "List %q = %q", prefix, keys)
	for _, key := range keys {
		p, is := x.p[key]
		fatalUnless(t, is && p.values > 0 && strings.HasPrefix(key, prefix), "List %q = %q: of %q is possible %v", prefix, keys, key, p)
	}
	for key, p := range x.p {
		fatalUnless(t, p.absent || !strings.HasPrefix(key, prefix) || slices.Contains(keys, key), "List %q = %q: of %q is possible %v", prefix, keys, key, p)
	}
}

// W3, W4 of what layers 18 to 22 do: with M drives or fewer that ever were at fault, and across losses of power, List is answered, and tells what the Puts and Deletes have made possible.
func TestKeepsToWhatIsPossible(t *testing.T) {
	r := source(229)
	met := map[string]int{}
	for run := range 500 {
		shape := shapes()[run%len(shapes())]
		x := newWorld(t, r, shape)
		for range 80 {
			for _, i := range x.faulty {
				misfortune(r, x.w[i].Wound)
			}
			if r.Intn(4) == 0 {
				x.w[r.Intn(len(x.w))].Fuse(r.Intn(4), r.Intn(6), r.Intn(60))
			}
			switch r.Intn(5) {
			case 0, 1, 2:
				x.put(r, pick(r, someKeys...))
			case 3:
				x.delete(pick(r, someKeys...))
			}
			prefix := pick(r, "", "", "a", "a/", "x")
			keys, err := listing.List(x.set, nil, prefix)
			if err == api.ErrDown {
				met["down"]++
				x.lose(t, r)
				if keys, err = listing.List(x.set, nil, prefix); err == api.ErrDown {
					continue
				}
			}
			wantNumber(t, fmt.Sprintf("%v, %d at fault: List", shape, len(x.faulty)), err, api.OK)
			x.wantPossible(t, prefix, keys)
			met[fmt.Sprint(len(keys))]++
		}
	}
	for _, what := range []string{"down", "0", "1", "2", "3", "4", "5"} {
		fatalUnless(t, met[what] > 50, "%s: %v", what, met)
	}
}

// W3: with M drives or fewer that are not there or refuse, at their List or at a Read, all keys are told; with M + 1 that are silent none is.
func TestItServes(t *testing.T) {
	r := source(230)
	for range 1500 {
		shape := pick(r, append(shapes(), api.Shape{K: 4, M: 4, Block: 3}, api.Shape{K: 6, M: 3, Block: 1})...)
		s := shelves(shape, someKeys...)
		order := r.Perm(len(s.disks))
		for _, i := range order[:pick(r, 0, shape.M, r.Intn(shape.M+1))] {
			d := s.disks[i].(*spy)
			number := pick(r, slices.DeleteFunc(slices.Clone(numbers), func(n api.Errno) bool { return n == api.OK || n == api.ErrDown })...)
			switch r.Intn(5) {
			case 0:
				s.set.Disks[i] = nil
			case 1:
				d.list = number
			case 2:
				d.fail(pick(r, someKeys...), number)
			case 3:
				d.names = d.names[:r.Intn(len(d.names))]
			case 4:
				clear(d.files)
			}
		}
		keys, err := listing.List(s.set, nil, "")
		fatalUnless(t, err == api.OK && slices.Equal(keys, slices.Sorted(slices.Values(someKeys))), "%v: List = %q, %d", shape, keys, err)
		for _, i := range order[:shape.M+1] {
			s.set.Disks[i] = pick[api.Disk](r, nil, &spy{list: api.ErrIO})
		}
		keys, err = listing.List(s.set, nil, "")
		fatalUnless(t, err == api.ErrQuorum && len(keys) == 0, "%v: List = %q, %d", shape, keys, err)
	}
}

// Without faults the store tells as a map does.
func TestAsAMap(t *testing.T) {
	r := source(231)
	for _, shape := range append(shapes(), api.Shape{K: 6, M: 5, Block: 7}) {
		set, w := opened(t, shape)
		have := map[string]bool{}
		for range 300 {
			key := pick(r, "a", "b", "\x00", fmt.Sprint(r.Intn(30)))
			if have[key] {
				wantNumber(t, "Delete", drop.Delete(set, nil, key), api.OK)
				delete(have, key)
			} else {
				wantNumber(t, "Put", put.Put(set, nil, key, make([]byte, r.Intn(60))), api.OK)
				have[key] = true
			}
			var want []string
			for key := range have {
				want = append(want, key)
			}
			slices.Sort(want)
			last := set.Last
			wantList(t, set, "", want, api.OK)
			wantList(t, set, "1", beginning(want, "1"), api.OK)
			fatalUnless(t, set.Last == last, "Last was %v, and is %v", last, set.Last)
		}
		for i, x := range w {
			fatalUnless(t, x.Pending() == 0, "at the drive %d something is pending", i)
		}
	}
}

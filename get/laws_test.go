package get_test

import (
	"bytes"
	"fmt"
	"math/rand"
	"slices"
	"strings"
	"testing"

	"cairn/api"
	"cairn/bay"
	"cairn/drive"
	"cairn/get"
	"cairn/opening"
	"cairn/put"
	"cairn/wound"
)

// shelf is a store into whose places an object was stored, each shard by itself, beside other files.
type shelf struct {
	set  *api.Set
	w    []*wound.Wound
	head api.Head
	data []byte
}

// shelfOf stores an object of these bytes.
func shelfOf(t *testing.T, shape api.Shape, key string, data []byte) shelf {
	t.Helper()
	set, w := ward(shape, 1<<20)
	h := api.Head{Store: set.Store, Shape: shape, Key: key, Gen: api.Gen{Epoch: 4, Count: 11}}
	other := h
	other.Key = "another one"
	beside := shardsOf(other, []byte("something else"))
	for i, s := range shardsOf(h, data) {
		wantNumber(t, "Store", bay.Store(w[i], beside[i]), api.OK)
		wantNumber(t, "Store", bay.Store(w[i], s), api.OK)
	}
	return shelf{set: set, w: w, head: h, data: data}
}

// harms are what may become of a place.
func harms() []string {
	return []string{"taken out", "offline", "refused", "wiped", "cut", "turned"}
}

// harm does something to a place.
func (s shelf) harm(t *testing.T, r *rand.Rand, place int, way string) {
	t.Helper()
	w, name := s.w[place], nameOf(s.head.Key)
	form, _ := w.Drive.Read(name)
	switch way {
	case "taken out":
		s.set.Disks[place] = nil
	case "offline":
		w.Offline(true)
	case "refused":
		var all []api.Fault
		for at := range 50 {
			all = append(all, api.Fault{At: at, Kind: api.FaultIO})
		}
		w.Arm(all)
	case "wiped":
		w.Wipe()
	case "cut":
		n := pick(r, 0, 1, 35, 36, len(form)-1, r.Intn(len(form)))
		for _, f := range w.Image() {
			w.Cut(f.Name, n)
		}
	case "turned":
		mask := turned(len(form), r.Intn(8*len(form)), pick(r, 1, 3, 0x80000001, 0xffffffff, 0x82f63b78, r.Uint32()|1))
		wantNumber(t, "Flip", w.Flip(name, 0, mask), api.OK)
	}
}

// turned are the bytes that turn the bits of the pattern, whose lowest bit is the one at: layer 6's order is that of the bytes, in each the lowest bit first.
func turned(length, at int, pattern uint32) []byte {
	mask := make([]byte, length)
	for i := range 32 {
		if pattern>>i&1 == 1 && at+i < 8*length {
			mask[(at+i)/8] |= 1 << ((at + i) % 8)
		}
	}
	return mask
}

// wantRead wants what P20.4 says, with so many places that are harmed; it tells Get's number.
func (s shelf) wantRead(t *testing.T, r *rand.Rand, harmed int) api.Errno {
	t.Helper()
	data, gen, err := get.Get(s.set, nil, s.head.Key)
	v, seen, no := get.Look(s.set, nil, s.head.Key)
	fatalUnless(t, no == api.OK && len(seen) == len(s.w), "Look = %v, %v, %d", v, seen, no)
	off, n := r.Intn(len(s.data)+2), r.Intn(len(s.data)+3)
	part, wrong := get.Range(s.set, nil, s.head.Key, off, n)
	want := piece(s.data, off, n)
	fatalUnless(t, harmed > s.head.Shape.M || err == api.OK, "%v, %d places harmed: Get = %d", s.head.Shape, harmed, err)
	switch err {
	case api.OK:
		fatalUnless(t, bytes.Equal(data, s.data) && gen == s.head.Gen, "Get = %v, %v, not %v, %v", data, gen, s.data, s.head.Gen)
		fatalUnless(t, wrong == want.err && bytes.Equal(part, want.data), "Range %d %d = %v, %d, not %v", off, n, part, wrong, want)
		fatalUnless(t, v.Kind == api.IsValue && len(v.Places) >= s.head.Shape.K && v.Gen == s.head.Gen && v.Size == len(s.data), "Look = %v", v)
	case api.ErrNotFound:
		fatalUnless(t, wrong == err && v.Kind == api.IsAbsent, "Get = %d, Range = %d, Look = %v", err, wrong, v)
	case api.ErrQuorum:
		fatalUnless(t, wrong == err && v.Kind == api.IsUnknown, "Get = %d, Range = %d, Look = %v", err, wrong, v)
	default:
		t.Fatalf("Get = %v, %v, %d", data, gen, err)
	}
	return err
}

// P20.4: every choice of places in small stores, harmed in every way; of several each in a way of its own.
func TestAnyK(t *testing.T) {
	r := source(204)
	met := map[api.Errno]int{}
	ways := append([]string{""}, harms()...)
	for _, shape := range shapes()[:4] {
		every(shape.K+shape.M, len(ways), func(chosen []int) {
			data := make([]byte, pick(r, 0, 1, shape.K*shape.Block, 20))
			r.Read(data)
			s := shelfOf(t, shape, "a", data)
			harmed := 0
			for place, way := range chosen {
				if way > 0 {
					s.harm(t, r, place, ways[way])
					harmed++
				}
			}
			met[s.wantRead(t, r, harmed)]++
		})
	}
	wantMet(t, met, api.OK, api.ErrNotFound, api.ErrQuorum)
}

// P20.4: greater stores; up to all places are harmed, about M of them most often.
func TestAnyKOfMany(t *testing.T) {
	r := source(205)
	met := map[api.Errno]int{}
	for run := range 2500 {
		shape := pick(r, api.Shape{K: 3, M: 2, Block: 4}, api.Shape{K: 4, M: 4, Block: 3}, api.Shape{K: 5, M: 2, Block: 16}, api.Shape{K: 10, M: 4, Block: 1})
		if run%250 == 0 {
			shape = pick(r, api.Shape{K: 100, M: 50, Block: 3}, api.Shape{K: 60, M: 60, Block: 65536})
		}
		data := make([]byte, pick(r, 0, 1, shape.K, 3*shape.K*min(shape.Block, 20)+1, 200))
		r.Read(data)
		s := shelfOf(t, shape, pick(r, "a", "\x00\xff", strings.Repeat("k", 255)), data)
		harmed := pick(r, 0, 1, shape.M, shape.M, shape.M, shape.M+1, r.Intn(len(s.w)+1))
		one := pick(r, harms()...)
		for _, place := range r.Perm(len(s.w))[:harmed] {
			s.harm(t, r, place, pick(r, one, one, pick(r, harms()...)))
		}
		met[s.wantRead(t, r, harmed)]++
	}
	wantMet(t, met, api.OK, api.ErrNotFound, api.ErrQuorum)
}

// P20.4: one file is cut at each of its bytes, and bits are turned from each of its bits on; with M others that are gone it is not told.
func TestEachByteOfAFile(t *testing.T) {
	r := source(206)
	for place := range 3 {
		s := shelfOf(t, small(), "a", []byte("hello world"))
		form, _ := s.w[place].Drive.Read("o61")
		gone := (place + 1) % 3
		try := func(says string, b []byte) {
			t.Helper()
			w := wound.New(drive.Load(1000, []api.File{{Name: "o61", Data: b}}))
			s.set.Disks[place] = w
			s.w[gone].Offline(false)
			if err := s.wantRead(t, r, 1); err != api.OK {
				t.Fatalf("%s: Get = %d", says, err)
			}
			s.w[gone].Offline(true)
			if err := s.wantRead(t, r, 2); err != api.ErrQuorum {
				t.Fatalf("%s, another place offline: Get = %d", says, err)
			}
		}
		for n := range form {
			try(fmt.Sprint("cut at ", n), form[:n])
		}
		for at := range 8 * len(form) {
			for _, pattern := range []uint32{1, 0x80000001, 0xffffffff, r.Uint32() | 1} {
				b := slices.Clone(form)
				for i, x := range turned(len(form), at, pattern) {
					b[i] ^= x
				}
				try(fmt.Sprintf("the bits %b from %d on turned", pattern, at), b)
			}
		}
	}
}

// P20.5: two writings, at each place of one of them or of none, in every way in small stores; the newer one has the greater epoch, count or size.
func TestTheNewestThatCounts(t *testing.T) {
	met := map[string]int{}
	for _, x := range []struct {
		older, newer api.Gen
		old, young   string
	}{
		{api.Gen{Epoch: 1, Count: 9}, api.Gen{Epoch: 2, Count: 1}, "the old one", "young"},
		{api.Gen{Epoch: 1, Count: 1}, api.Gen{Epoch: 1, Count: 2}, "", "young"},
		{api.Gen{Epoch: 1, Count: 2}, api.Gen{Epoch: 1, Count: 3}, "old", ""},
		{api.Gen{Epoch: 255, Count: 65536}, api.Gen{Epoch: 256, Count: 255}, "same", "size"},
		{api.Gen{Epoch: api.MaxEpoch - 1, Count: api.MaxCount}, api.Gen{Epoch: api.MaxEpoch, Count: 1}, "a", "b"},
		{api.Gen{Epoch: 1, Count: 1}, api.Gen{Epoch: 1, Count: 1}, "short", "longer"},
	} {
		for _, shape := range append(shapes(), api.Shape{K: 3, M: 3, Block: 2}) {
			old := shardsOf(api.Head{Store: theStore(), Shape: shape, Key: "a", Gen: x.older}, []byte(x.old))
			young := shardsOf(api.Head{Store: theStore(), Shape: shape, Key: "a", Gen: x.newer}, []byte(x.young))
			every(shape.K+shape.M, 3, func(which []int) {
				set, w := ward(shape, 1000)
				var count [3]int
				for i, kind := range which {
					count[kind]++
					if kind == 1 || kind == 2 && i%2 == 0 { // a newer one may stand in the place of an older one
						wantNumber(t, "Store", bay.Store(w[i], old[i]), api.OK)
					}
					if kind == 2 {
						wantNumber(t, "Store", bay.Store(w[i], young[i]), api.OK)
					}
				}
				switch {
				case count[2] >= shape.K:
					wantGet(t, set, nil, "a", x.young, x.newer, api.OK)
					met["the newer one"]++
				case count[1] >= shape.K:
					wantGet(t, set, nil, "a", x.old, x.older, api.OK)
					met["the older one"]++
				default:
					wantGet(t, set, nil, "a", "", api.Gen{}, api.ErrNotFound)
					met["none"]++
				}
			})
		}
	}
	for _, what := range []string{"the newer one", "the older one", "none"} {
		fatalUnless(t, met[what] > 300, "%v", met)
	}
}

// someWound is a drive to which this and that has happened, and may happen still.
func someWound(r *rand.Rand, shape api.Shape, place int) patient {
	files := []api.File{{Name: "l", Data: []byte("label")}, {Name: "o62", Data: make([]byte, r.Intn(50))}, {Name: "zzz"}}
	if r.Intn(8) > 0 {
		files = append(files, api.File{Name: "o61", Data: pick(r, oldOne, oldOne, oldOne, oldOne, youngOne, futureOne)(shape, place).bytes})
	}
	d := drive.Load(10000, files)
	if r.Intn(2) == 0 { // changes that are not safe
		d.Create("b")
		d.Append("b", make([]byte, r.Intn(20)))
		d.Rename("o62", "t")
		d.Remove("zzz")
	}
	w := wound.New(d)
	switch r.Intn(14) {
	case 0:
		w.Offline(true)
	case 1:
		w.Arm([]api.Fault{{At: r.Intn(2), Kind: api.FaultIO}, {At: 0, Kind: api.FaultFull}})
	case 2:
		w.Fuse(r.Intn(3), r.Intn(2), r.Intn(60))
	case 3:
		w.Cut("o61", r.Intn(60))
	case 4:
		w.Flip("o61", r.Intn(40), []byte{1, 2, 3})
	}
	return patient{w}
}

// P20.6: wounds of all kinds: what they hold is as it was, of each that is online and has power one call is counted, and the set is as it was (read wants that); the answers are those of the chapter's words.
func TestReadingLeavesAllAsItWas(t *testing.T) {
	met := map[api.Errno]int{}
	for seed := range int64(3000) {
		shape := shapes()[seed%int64(len(shapes()))]
		anew := func() scene {
			r := source(seed)
			l := make([]subject, shape.K+shape.M)
			for i := range l {
				if r.Intn(12) > 0 {
					l[i] = someWound(r, shape, i)
				}
			}
			return sceneOf(shape, l, pick(r, "a", "a", "a", "c"))
		}
		met[checkAll(t, anew, ranging(int(seed%7), int(seed%5)))]++
		for _, r := range readings() {
			s := anew()
			var before []string
			for _, d := range s.disks {
				if d == nil {
					before = append(before, "")
				} else {
					before = append(before, d.(patient).files())
				}
			}
			s.read(t, r)
			for i, d := range s.disks {
				if d != nil {
					fatalUnless(t, d.(patient).files() == before[i], "%s: the drive %d held %s, and holds %s", r.says, i, before[i], d.(patient).files())
				}
			}
		}
	}
	wantMet(t, met, api.OK, api.ErrNotFound, api.ErrQuorum, api.ErrDown)
}

// P20.6: one Read of each drive that is there and nothing beside it, whatever stands there; none, if the arguments are refused or it is stopped.
func TestOneReadOfEach(t *testing.T) {
	for _, r := range append(readings(), ranging(99, 0), ranging(-1, 0), ranging(0, -1)) {
		for _, show := range []exhibit{oldOne, nothing, refused(oldOne, api.ErrIO), spoiled(oldOne, func([]byte) []byte { return []byte{1} })} {
			for _, key := range []string{"a", "", strings.Repeat("k", 256)} {
				for _, stopped := range []bool{false, true} {
					s := gallery(api.Shape{K: 3, M: 2, Block: 4}, []exhibit{show, nobody, show, show, show})
					s.key, s.done = key, make(chan struct{})
					if stopped {
						close(s.done)
					}
					err := s.read(t, r).err
					want := `Read "o61"; Struck; Rest false`
					if stopped || key != "a" || err == api.ErrArg {
						want = ""
					}
					for i, d := range s.disks {
						fatalUnless(t, d == nil || d.chart() == want, "%s: the drive %d was asked %s", r.says, i, d)
					}
				}
			}
		}
	}
}

// P20.7: pieces that follow one another are one piece, and from 0 on with the Size or more it is what Get tells.
func TestPiecesPutTogether(t *testing.T) {
	r := source(207)
	for range 1500 {
		shape := pick(r, append(shapes(), api.Shape{K: 5, M: 3, Block: 6})...)
		data := make([]byte, r.Intn(60))
		r.Read(data)
		s := shelfOf(t, shape, "a", data)
		for _, place := range r.Perm(len(s.w))[:r.Intn(shape.M+1)] {
			s.harm(t, r, place, pick(r, harms()...))
		}
		whole, _, err := get.Get(s.set, nil, "a")
		wantNumber(t, "Get", err, api.OK)
		wantRange(t, s.set, "a", 0, len(data)+r.Intn(3), string(whole), api.OK)
		off := r.Intn(len(data) + 1)
		n, m := r.Intn(len(data)-off+1), r.Intn(len(data)+5)
		first, err := get.Range(s.set, nil, "a", off, n)
		wantNumber(t, "Range", err, api.OK)
		second, err := get.Range(s.set, nil, "a", off+n, m)
		wantNumber(t, "Range", err, api.OK)
		wantRange(t, s.set, "a", off, n+m, string(first)+string(second), api.OK)
		var all []byte
		for at := 0; at < len(data); {
			part, err := get.Range(s.set, nil, "a", at, 1+r.Intn(20))
			fatalUnless(t, err == api.OK && len(part) > 0, "Range at %d = %v, %d", at, part, err)
			all = append(all, part...)
			at += len(part)
		}
		fatalUnless(t, bytes.Equal(all, whole) && bytes.Equal(whole, data), "the pieces are %v, the whole %v, not %v", all, whole, data)
	}
}

// opened is a store that was formatted and opened, with its drives at their places.
func opened(t *testing.T, shape api.Shape) (*api.Set, []*wound.Wound) {
	t.Helper()
	var w []*wound.Wound
	var disks []api.Disk
	for range shape.K + shape.M {
		w = append(w, wound.New(drive.New(1<<20)))
		disks = append(disks, w[len(w)-1])
	}
	wantNumber(t, "Format", opening.Format(disks, shape, theStore()), api.OK)
	return reopened(t, w), w
}

// reopened is the set of another opening.
func reopened(t *testing.T, w []*wound.Wound) *api.Set {
	t.Helper()
	var disks []api.Disk
	for _, x := range w {
		disks = append(disks, x)
	}
	set, err := opening.Open(disks)
	wantNumber(t, "Open", err, api.OK)
	return set
}

// possible is what a key may come to: values, and absent.
type possible struct {
	values []string
	absent bool
}

// holds tells whether a reading of the key may be answered so.
func (p possible) holds(data []byte, err api.Errno) bool {
	return err == api.OK && slices.Contains(p.values, string(data)) || err == api.ErrNotFound && p.absent
}

// someFate is what a loss of power keeps.
func someFate(r *rand.Rand) api.Fate {
	f := api.Fate{Dirs: make([]bool, r.Intn(10)), Cuts: make([]int, r.Intn(8))}
	for i := range f.Dirs {
		f.Dirs[i] = r.Intn(2) == 0
	}
	for i := range f.Cuts {
		f.Cuts[i] = pick(r, 0, 1, 30, 31, 99, -1)
	}
	return f
}

// What the store has promised of reads: with M drives or fewer that ever were at fault, and across losses of power, Get tells one of the things that the Puts have made possible; Range the same.
func TestReadsKeepToWhatIsPossible(t *testing.T) {
	r := source(208)
	met := map[string]int{}
	for run := range 250 {
		shape := shapes()[run%len(shapes())]
		set, w := opened(t, shape)
		faulty := r.Perm(len(w))[:r.Intn(shape.M+1)]
		p := map[string]possible{}
		for _, key := range []string{"a", "b", "c", "d"} {
			p[key] = possible{absent: true}
		}
		for range 60 {
			key := pick(r, "a", "b", "c", "d")
			for _, i := range faulty {
				misfortune(r, w[i])
			}
			if r.Intn(4) == 0 {
				w[r.Intn(len(w))].Fuse(r.Intn(4), r.Intn(6), r.Intn(60))
			}
			if r.Intn(3) == 0 {
				p[key] = tryPut(r, set, key, p[key])
			}
			data, _, err := get.Get(set, nil, key)
			if err == api.ErrDown {
				met["down"]++
				for _, x := range w {
					x.Crash(someFate(r))
					x.Fuse(-1, 0, 0)
					x.Power(true)
				}
				set = reopened(t, w)
				continue
			}
			fatalUnless(t, p[key].holds(data, err), "%v, %d at fault: Get %q = %q, %d, not of %v", shape, len(faulty), key, data, err, p[key])
			met[fmt.Sprint(int(err), " of ", min(2, len(p[key].values)), " ", p[key].absent)]++
			// It need not be the same thing: one that was refused may answer now.
			part, no := get.Range(set, nil, key, 0, 100)
			fatalUnless(t, no == api.ErrDown || p[key].holds(part, no), "Range %q 0 100 = %q, %d, not of %v", key, part, no, p[key])
		}
	}
	for _, what := range []string{"down", "0 of 1 false", "0 of 1 true", "200 of 0 true", "200 of 1 true"} {
		fatalUnless(t, met[what] > 20, "%s: %v", what, met)
	}
}

// misfortune is something that happens to a drive that is at fault.
func misfortune(r *rand.Rand, w *wound.Wound) {
	switch r.Intn(12) {
	case 0:
		w.Offline(true)
	case 1:
		w.Arm([]api.Fault{{At: r.Intn(9), Kind: api.FaultIO}, {At: r.Intn(9), Kind: api.FaultFull}})
	case 2:
		w.Flip(pick(r, "o61", "o62"), r.Intn(50), []byte{1 << r.Intn(8)})
	case 3:
		w.Cut(pick(r, "o61", "o62"), r.Intn(30))
	case 4, 5, 6:
		w.Offline(false)
	}
}

// tryPut puts something, and says what is possible behind it.
func tryPut(r *rand.Rand, set *api.Set, key string, p possible) possible {
	data := fmt.Sprint(key, strings.Repeat("x", r.Intn(20)), r.Intn(1000))
	last := set.Last
	switch err := put.Put(set, nil, key, []byte(data)); {
	case err == api.OK:
		return possible{values: []string{data}}
	case set.Last != last: // an error of its writing
		p.values = append(p.values, data)
	}
	return p
}

// Without faults the store answers as a map does.
func TestAsAMap(t *testing.T) {
	r := source(209)
	for _, shape := range append(shapes(), api.Shape{K: 6, M: 5, Block: 7}) {
		set, w := opened(t, shape)
		have, gens := map[string][]byte{}, map[string]api.Gen{}
		for range 300 {
			key := pick(r, "a", "b", "\x00", fmt.Sprint(r.Intn(100)))
			if r.Intn(2) == 0 {
				data := make([]byte, r.Intn(60))
				r.Read(data)
				if put.Put(set, nil, key, data) == api.OK {
					_, is := have[key]
					fatalUnless(t, !is, "%q was put twice", key)
					have[key], gens[key] = data, set.Last
				}
			}
			if r.Intn(50) == 0 {
				set = reopened(t, w)
			}
			want := answer{err: api.ErrNotFound}
			off, n := r.Intn(60), r.Intn(60)
			part := want
			if data, is := have[key]; is {
				want = answer{data: data, gen: gens[key]}
				part = piece(data, off, n)
			}
			wantGet(t, set, nil, key, string(want.data), want.gen, want.err)
			wantRange(t, set, key, off, n, string(part.data), part.err)
		}
	}
}

package put_test

import (
	"bytes"
	"fmt"
	"math/rand"
	"slices"
	"testing"

	"cairn/api"
	"cairn/bay"
	"cairn/drive"
	"cairn/frame"
	"cairn/put"
	"cairn/stripe"
	"cairn/wound"
)

// litter are files that stand on a drive ahead of a Put: other keys', a label, a temporary one; and sometimes something of the key "a".
func litter(r *rand.Rand, shape api.Shape, place int) []api.File {
	var files []api.File
	for _, name := range []string{"l", "t", "o62", "o6161", "zzz"} {
		if r.Intn(2) == 0 {
			files = append(files, api.File{Name: name, Data: make([]byte, r.Intn(50))})
		}
	}
	switch r.Intn(12) {
	case 0:
		files = append(files, api.File{Name: "o61", Data: make([]byte, r.Intn(50))})
	case 1, 2, 3:
		gen := pick(r, api.Gen{Epoch: 3, Count: 2}, api.Gen{Epoch: 3, Count: 2}, api.Gen{Epoch: 2, Count: 9})
		shards := shardsOf(api.Head{Store: [8]byte{7, 7: 9}, Shape: shape, Key: "a", Gen: gen}, []byte("an older one"))
		files = append(files, api.File{Name: "o61", Data: formOf(shards[place])})
	}
	return files
}

// someWound is a drive to which this and that has happened, and may happen still.
func someWound(r *rand.Rand, shape api.Shape, place int) patient {
	d := drive.Load(pick(r, 10000, 10000, 10000, 300, 100), litter(r, shape, place))
	if r.Intn(2) == 0 { // changes that are not safe
		d.Create("b")
		d.Append("b", make([]byte, r.Intn(20)))
		d.Rename("o62", "t")
		d.Remove("zzz")
	}
	w := wound.New(d)
	switch r.Intn(10) {
	case 0:
		w.Offline(true)
	case 1, 2, 3:
		w.Arm([]api.Fault{{At: r.Intn(7), Kind: api.FaultIO}, {At: r.Intn(7), Kind: api.FaultFull}})
	case 4:
		w.Arm([]api.Fault{{At: r.Intn(7), Kind: api.FaultFull}})
	case 5:
		if r.Intn(2) == 0 {
			w.Fuse(r.Intn(3), r.Intn(7), r.Intn(60))
		}
	}
	return patient{w}
}

// someFate is what a loss of power keeps.
func someFate(r *rand.Rand) api.Fate {
	f := api.Fate{Dirs: make([]bool, r.Intn(10)), Cuts: make([]int, r.Intn(8))}
	for i := range f.Dirs {
		f.Dirs[i] = r.Intn(2) == 0
	}
	for i := range f.Cuts {
		f.Cuts[i] = pick(r, 0, 1, 30, 31, 99, -1)
	}
	return f
}

// fates are all there are for so many changes of names, with some cuts of bytes.
func fates(pending int) []api.Fate {
	var all []api.Fate
	for kept := range 1 << pending {
		dirs := make([]bool, pending)
		for i := range dirs {
			dirs[i] = kept>>i&1 == 1
		}
		for _, cut := range []int{0, 20, 999} {
			all = append(all, api.Fate{Dirs: dirs, Cuts: []int{cut, cut, cut, cut, cut, cut, cut, cut}})
		}
	}
	return all
}

// fileOf is the bytes of a name among files.
func fileOf(files []api.File, name string) ([]byte, bool) {
	for _, f := range files {
		if f.Name == name {
			return f.Data, true
		}
	}
	return nil, false
}

// holders are the places at which this shard of the object is safe.
func holders(disks []subject, shards []api.Shard) []int {
	var l []int
	for i, d := range disks {
		if d == nil {
			continue
		}
		b, is := fileOf(d.(patient).Safe(), nameOf(shards[i].Key))
		stands, stood := fileOf(d.(patient).Image(), nameOf(shards[i].Key))
		if is && stood && bytes.Equal(b, formOf(shards[i])) && bytes.Equal(stands, b) {
			l = append(l, i)
		}
	}
	return l
}

// wantJoined wants the object of the shards that the drives show at these places.
func wantJoined(t *testing.T, s scene, places []int) {
	t.Helper()
	shards := make([]api.Shard, len(s.disks))
	for _, i := range places {
		seen := bay.Look(s.disks[i].(patient).Drive, api.Head{Store: s.set.Store, Shape: s.set.Shape, Key: s.key, Index: i})
		fatalUnless(t, seen.Kind == api.SeenShard && seen.Shard.Gen == s.set.Last && seen.Shard.Size == len(s.data), "at the place %d: %v", i, seen)
		shards[i] = seen.Shard
	}
	data, err := stripe.Join(shards)
	fatalUnless(t, err == api.OK && bytes.Equal(data, s.data), "the shards at %v are joined to %v, %d, not %v", places, data, err, s.data)
}

// someWorld is a scene of wounds to which this and that happens.
func someWorld(seed int64) (scene, *rand.Rand) {
	r := source(seed)
	shape := pick(r, append(shapes(), api.Shape{K: 5, M: 4, Block: 16})...)
	l := make([]subject, shape.K+shape.M)
	for i := range l {
		if r.Intn(15) > 0 {
			l[i] = someWound(r, shape, i)
		}
	}
	data := make([]byte, pick(r, 0, 1, 7, 40))
	r.Read(data)
	s := sceneOf(shape, l, pick(r, "a", "a", "a", "b", "\x00"), data)
	if r.Intn(8) == 0 {
		done := make(chan struct{})
		s.done = done
		for _, d := range l {
			if d != nil {
				d.(patient).Fuse(-1, 0, 0)
				s.set.Disks[slices.Index(l, d)] = &stopper{patient: d.(patient), done: done}
				break
			}
		}
	}
	return s, r
}

// stopper is a drive at whose first round's end the operation is stopped.
type stopper struct {
	patient
	done  chan struct{}
	rests int
}

func (s *stopper) Rest(off bool) {
	s.rests++
	if s.rests == 1 {
		close(s.done)
	}
	s.patient.Rest(off)
}

// P19.2: behind a Put that answered OK the shards at K + 1 places or more are safe, and any K of them are the object; behind a loss of power too.
func TestWhatIsAcknowledgedIsSafe(t *testing.T) {
	met, fewest := 0, 0
	for seed := range int64(12000) {
		s, r := someWorld(seed)
		if s.put(t) != api.OK {
			continue
		}
		met++
		shards := shardsOf(api.Head{Store: s.set.Store, Shape: s.set.Shape, Key: s.key, Gen: s.set.Last}, s.data)
		l := holders(s.disks, shards)
		fatalUnless(t, len(l) > s.set.Shape.K, "K is %d, and at %v the shard is safe", s.set.Shape.K, l)
		if len(l) == s.set.Shape.K+1 {
			fewest++
		}
		for range 3 {
			for _, d := range s.disks {
				if d != nil {
					d.(patient).Crash(someFate(r))
				}
			}
			left := holders(s.disks, shards)
			for _, i := range l {
				fatalUnless(t, slices.Contains(left, i), "behind a loss of power the shard is at %v, no more at %v", left, l)
			}
			for range 4 {
				r.Shuffle(len(l), func(i, j int) { l[i], l[j] = l[j], l[i] })
				wantJoined(t, s, l[:s.set.Shape.K])
			}
		}
	}
	fatalUnless(t, met > 1000 && fewest > 200, "OK %d times, %d times at K + 1 places", met, fewest)
}

// P19.2: every fate of each drive behind an OK, with changes that are pending ahead; and every choice of K places.
func TestEveryFateBehindOK(t *testing.T) {
	for _, shape := range shapes() {
		for _, f := range fates(4) {
			l := make([]subject, shape.K+shape.M)
			for i := range l {
				d := drive.Load(1000, []api.File{{Name: "o62", Data: []byte("other")}})
				d.Create("t")
				d.Append("t", []byte("left"))
				d.Rename("o62", "o63")
				l[i] = patient{wound.New(d)}
			}
			s := sceneOf(shape, l, "a", []byte("any bytes"))
			wantNumber(t, "Put", s.put(t), api.OK)
			for _, d := range l {
				d.(patient).Crash(f)
			}
			every(len(l), 2, func(chosen []int) {
				var places []int
				for i, is := range chosen {
					if is == 1 {
						places = append(places, i)
					}
				}
				if len(places) == shape.K {
					wantJoined(t, s, places)
				}
			})
		}
	}
}

// rest are the files but for the key's and the temporary one.
func rest(files []api.File, key string) string {
	return fmt.Sprint(slices.DeleteFunc(files, func(f api.File) bool { return f.Name == nameOf(key) || f.Name == "t" }))
}

// state is what there is of a drive's files.
type state struct {
	rest string
	file []byte
	is   bool
	all  string
}

func stateOf(d subject, key string) state {
	p := d.(patient)
	b, is := fileOf(p.Image(), nameOf(key))
	return state{rest(p.Image(), key), b, is, fmt.Sprint(p.Image(), p.Safe(), p.Pending())}
}

// wantOneOfTwo wants all files as they were, but for the temporary one and the key's, which may be the new one.
func wantOneOfTwo(t *testing.T, before, after state, form []byte) (turned bool) {
	t.Helper()
	fatalUnless(t, after.rest == before.rest, "the other files were %s, and are %s", before.rest, after.rest)
	same := before.is == after.is && bytes.Equal(before.file, after.file)
	fatalUnless(t, same || after.is && bytes.Equal(after.file, form), "the key's file was %x, and is %x, not %x", before.file, after.file, form)
	return !same
}

// P19.3: behind a Put that was refused the other files are as they were, and the key's as it was or the new one; all of them, if Last is.
func TestWhatIsRefused(t *testing.T) {
	met := map[string]int{}
	for seed := range int64(12000) {
		s, _ := someWorld(seed)
		if seed%10 == 0 {
			s.set.Last.Count = api.MaxCount - 1 + int(seed/10%2)
		}
		var before []state
		for _, d := range s.disks {
			if d == nil {
				before = append(before, state{})
			} else {
				before = append(before, stateOf(d, s.key))
			}
		}
		last := s.set.Last
		err := s.put(t)
		if err == api.OK {
			continue
		}
		met[fmt.Sprint(int(err))]++
		next := api.Gen{Epoch: last.Epoch, Count: last.Count + 1}
		fatalUnless(t, s.set.Last == last || s.set.Last == next, "Last was %v and is %v", last, s.set.Last)
		for i, d := range s.disks {
			if d == nil {
				continue
			}
			after := stateOf(d, s.key)
			if s.set.Last == last {
				fatalUnless(t, after.all == before[i].all, "Put = %d; the drive %d held %s, and holds %s", err, i, before[i].all, after.all)
				continue
			}
			form := formOf(shardsOf(api.Head{Store: s.set.Store, Shape: s.set.Shape, Key: s.key, Gen: next}, s.data)[i])
			if wantOneOfTwo(t, before[i], after, form) {
				met["turned"]++
			} else {
				met["stayed"]++
			}
		}
	}
	for _, what := range []string{"122", "160", "170", "181", "190", "turned", "stayed"} {
		fatalUnless(t, met[what] > 100, "%s: %d times of %v", what, met[what], met)
	}
}

// safeWard is drives on which all files are safe: of the key "a" each has nothing, an older shard or something spoilt, and another one's file.
func safeWard(shape api.Shape, stands int) []subject {
	l := make([]subject, shape.K+shape.M)
	shards := shardsOf(api.Head{Store: [8]byte{7, 7: 9}, Shape: shape, Key: "a", Gen: api.Gen{Epoch: 2, Count: 2}}, []byte("old"))
	for i := range l {
		files := []api.File{{Name: "l", Data: []byte("label")}, {Name: "o62", Data: []byte("other")}}
		switch {
		case stands == 1 && i == 0:
			files = append(files, api.File{Name: "o61", Data: formOf(shards[0])})
		case stands == 2 && i == 0:
			files = append(files, api.File{Name: "o61", Data: []byte("spoilt")})
		case stands == 3:
			files = append(files, api.File{Name: "t", Data: []byte("left behind")})
		}
		l[i] = patient{wound.New(drive.Load(1000, files))}
	}
	return l
}

// P19.3: the power goes at each call, or a call is refused; behind each fate the key's file is as it was or the new one, if all files were safe ahead.
func TestPowerLeavesOneOfTheTwo(t *testing.T) {
	shape := api.Shape{K: 2, M: 2, Block: 4}
	turned, stayed := 0, 0
	for stands := range 4 {
		for struck := range 4 {
			for call := range 6 {
				for _, way := range []string{"fuse", "fault", "fault and all others", "nothing"} {
					run := func() (scene, []state) {
						l := safeWard(shape, stands)
						var before []state
						for i, d := range l {
							before = append(before, stateOf(d, "a"))
							switch {
							case way == "fuse" && i == struck:
								d.(patient).Fuse(min(1, call), max(0, call-1), 7*call)
							case way == "fault" && i == struck, way == "fault and all others" && i != struck:
								d.(patient).Arm([]api.Fault{{At: call, Kind: api.FaultIO}})
							}
						}
						s := sceneOf(shape, l, "a", []byte("the new one"))
						s.put(t)
						return s, before
					}
					s, _ := run()
					pending := 0
					for _, d := range s.disks {
						pending = max(pending, d.(patient).Pending())
					}
					for _, f := range fates(pending) {
						s, before := run()
						for i, d := range s.disks {
							d.(patient).Crash(f)
							form := formOf(shardsOf(api.Head{Store: s.set.Store, Shape: shape, Key: "a", Gen: api.Gen{Epoch: 3, Count: 6}}, s.data)[i])
							if wantOneOfTwo(t, before[i], stateOf(d, "a"), form) {
								turned++
							} else {
								stayed++
							}
						}
					}
				}
			}
		}
	}
	fatalUnless(t, turned > 500 && stayed > 500, "turned %d, stayed %d", turned, stayed)
}

// scribe is a drive that notes the generations that it is handed.
type scribe struct {
	patient
	gens []api.Gen
}

func (s *scribe) Append(name string, data []byte) api.Errno {
	h, err := frame.ParseHead(data)
	if err == api.OK {
		s.gens = append(s.gens, h.Gen)
	}
	return s.patient.Append(name, data)
}

func below(a, b api.Gen) bool { return a.Epoch < b.Epoch || a.Epoch == b.Epoch && a.Count < b.Count }

// P19.4: in long runs of Puts, refused and not, each writing has a generation above Last as it was, and Last is that from then on; no generation twice.
func TestNoGenerationTwice(t *testing.T) {
	r := source(194)
	met := map[api.Errno]int{}
	for run := range 300 {
		shape := shapes()[run%len(shapes())]
		scribes := make([]*scribe, shape.K+shape.M)
		set := &api.Set{Shape: shape, Store: [8]byte{1}, Last: api.Gen{Epoch: 1 + r.Intn(3), Count: pick(r, 0, 1, 255, 65535, api.MaxCount-20)}}
		for i := range scribes {
			scribes[i] = &scribe{patient: patient{wound.New(drive.New(100000))}}
			set.Disks = append(set.Disks, scribes[i])
		}
		used := map[api.Gen]bool{}
		for range 60 {
			for range r.Intn(3) {
				strike(r, scribes[r.Intn(len(scribes))].patient)
			}
			last := set.Last
			err := put.Put(set, pick(r, nil, nil, nil, stoppedNow()), pick(r, "a", "b", "c", "d", "", fmt.Sprint(r.Intn(100))), make([]byte, r.Intn(20)))
			met[err]++
			wrote := false
			for _, s := range scribes {
				for _, gen := range s.gens {
					fatalUnless(t, below(last, gen) && gen == set.Last && !used[gen], "Put = %d; Last was %v and is %v; the writing's generation is %v", err, last, set.Last, gen)
					wrote = true
				}
				s.gens = nil
			}
			used[set.Last] = true
			fatalUnless(t, !wrote || set.Last == api.Gen{Epoch: last.Epoch, Count: last.Count + 1}, "Last was %v and is %v", last, set.Last)
			fatalUnless(t, set.Last == last || set.Last == api.Gen{Epoch: last.Epoch, Count: last.Count + 1}, "Last was %v and is %v", last, set.Last)
			if err == api.ErrDown {
				for _, s := range scribes {
					s.Rest(true)
					s.Crash(someFate(r))
					s.Power(true)
				}
			}
		}
	}
	for _, err := range []api.Errno{api.OK, api.ErrKey, api.ErrDown, api.ErrStopped, api.ErrQuorum, api.ErrWorn, api.ErrExists} {
		fatalUnless(t, met[err] > 50 && len(met) == 7, "%d: %d times of %v", err, met[err], met)
	}
}

func stoppedNow() <-chan struct{} {
	done := make(chan struct{})
	close(done)
	return done
}

// strike is something that happens to a drive.
func strike(r *rand.Rand, p patient) {
	switch r.Intn(10) {
	case 0, 1:
		p.Arm([]api.Fault{{At: r.Intn(9), Kind: api.FaultIO}, {At: r.Intn(9), Kind: api.FaultFull}})
	case 2:
		p.Fuse(r.Intn(4), r.Intn(6), r.Intn(60))
	case 3:
		p.Offline(true)
	case 4:
		p.Wipe()
	default:
		p.Offline(false)
	}
}

// silence makes a drive one that is not there or refuses a call, in one way of many; what it holds of the key does not count.
func silence(r *rand.Rand, place int, shape api.Shape, key string) api.Disk {
	w := wound.New(drive.New(100000))
	switch r.Intn(6) {
	case 0:
		return nil
	case 1:
		h := api.Head{Store: [8]byte{7, 7: 9}, Shape: shape, Key: key, Gen: api.Gen{Epoch: 1, Count: 1}}
		w = wound.New(drive.Load(100000, []api.File{{Name: nameOf(key), Data: formOf(shardsOf(h, []byte("older"))[place])}}))
		w.Offline(true)
	case 2:
		w.Arm([]api.Fault{{At: r.Intn(6), Kind: api.FaultIO}})
	case 3:
		w.Arm([]api.Fault{{At: 1 + r.Intn(2), Kind: api.FaultFull}})
	case 4:
		w = wound.New(drive.New(r.Intn(40)))
	default:
		return &spy{errs: map[int]api.Errno{r.Intn(6): pick[api.Errno](r, 120, 121, 111, 112, 91, 1, 2, 7, -1)}}
	}
	return w
}

// P19.5: with M - 1 drives or fewer that are not there or refuse, it is answered OK, whatever else stands on the others.
func TestItServes(t *testing.T) {
	r := source(195)
	for run := range 3000 {
		shape := pick(r, append(shapes(), api.Shape{K: 4, M: 4, Block: 3}, api.Shape{K: 6, M: 3, Block: 1})...)
		if run%300 == 0 {
			shape = pick(r, api.Shape{K: 128, M: 127, Block: 3}, api.Shape{K: 200, M: 55, Block: 65536})
		}
		n := shape.K + shape.M
		key := pick(r, "a", "\x00\xff", string(make([]byte, 255)))
		data := make([]byte, pick(r, 0, 1, shape.K, 100))
		set := &api.Set{Shape: shape, Store: [8]byte{7, 7: 9}, Last: api.Gen{Epoch: pick(r, 1, api.MaxEpoch), Count: pick(r, 0, 1, api.MaxCount-1)}}
		for range n {
			d := drive.Load(100000, []api.File{{Name: "o62", Data: []byte("other")}, {Name: "t", Data: []byte("left")}, {Name: "l"}})
			set.Disks = append(set.Disks, wound.New(d))
		}
		for _, i := range r.Perm(n)[:pick(r, 0, shape.M-1, r.Intn(shape.M))] {
			set.Disks[i] = silence(r, i, shape, key)
		}
		last := set.Last
		err := put.Put(set, pick(r, nil, make(chan struct{})), key, data)
		fatalUnless(t, err == api.OK && set.Last == api.Gen{Epoch: last.Epoch, Count: last.Count + 1}, "%v: Put = %d; Last was %v and is %v", shape, err, last, set.Last)
	}
}

// P19.5: with M drives it need not be: of any M that write nothing it is ErrQuorum, and the shards that were written are a value.
func TestOneMoreAndItDoesNotServe(t *testing.T) {
	r := source(196)
	for _, shape := range shapes() {
		for range 40 {
			set, w := ward(shape, 1000)
			order := r.Perm(len(w))
			for _, i := range order[:shape.M] {
				w[i].Offline(true)
			}
			wantPut(t, set, nil, "a", "x", api.ErrQuorum, 1, 1)
			wantPut(t, set, nil, "a", "y", api.ErrExists, 1, 1)
			w[order[0]].Offline(false)
			wantPut(t, set, nil, "b", "x", api.OK, 1, 2)
		}
	}
}

// Puts of many keys, each once: those that are there are refused, all others taken, whatever the order; no other key's file is touched.
func TestAsAMap(t *testing.T) {
	r := source(197)
	for _, shape := range shapes() {
		set, w := ward(shape, 1<<20)
		have := map[string][]byte{}
		for range 400 {
			key := pick(r, "a", "b", fmt.Sprint(r.Intn(200)))
			data := make([]byte, r.Intn(60))
			r.Read(data)
			_, is := have[key]
			want := api.OK
			if is {
				want = api.ErrExists
			}
			wantNumber(t, "Put", put.Put(set, nil, key, data), want)
			if !is {
				have[key] = data
			}
		}
		for key, data := range have {
			shards := make([]api.Shard, len(w))
			for _, i := range r.Perm(len(w))[:shape.K] {
				seen := bay.Look(w[i], api.Head{Store: set.Store, Shape: shape, Key: key, Index: i})
				shards[i] = seen.Shard
			}
			got, err := stripe.Join(shards)
			fatalUnless(t, err == api.OK && bytes.Equal(got, data), "%q: %v, %d, not %v", key, got, err, data)
		}
		for i, x := range w {
			fatalUnless(t, len(x.Image()) == len(have) && x.Pending() == 0 && set.Last.Count == len(have), "the drive %d has %d files", i, len(x.Image()))
		}
	}
}

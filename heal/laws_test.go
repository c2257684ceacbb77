package heal_test

import (
	"bytes"
	"fmt"
	"math/rand"
	"slices"
	"testing"

	"cairn/api"
	"cairn/bay"
	"cairn/drive"
	"cairn/get"
	"cairn/heal"
	"cairn/label"
	"cairn/wound"
)

// the keys that stand on the drives of some world, each on some of them.
var someKeys = []string{"a", "a/b", "b", "\xff"}

// someFiles are what stands on a drive: its label, mostly, and shards of some keys, some of them spoilt or of another writing.
func someFiles(r *rand.Rand, shape api.Shape, place int) []api.File {
	files := []api.File{{Name: "zzz", Data: []byte("not ours")}}
	if r.Intn(8) > 0 {
		files = append(files, api.File{Name: "l", Data: labelOf(theStore(), shape, place, pick(r, 3, 3, 3, 2, 0))})
	}
	if r.Intn(4) == 0 {
		files = append(files, api.File{Name: "t", Data: make([]byte, r.Intn(50))})
	}
	for _, key := range someKeys {
		s := shelf(shape, place, key)
		if key == "a" {
			s = pick(r, oldOne, oldOne, oldOne, oldOne, youngOne, futureOne)(shape, place)
		}
		b := slices.Clone(s.files[nameOf(key)])
		switch r.Intn(8) {
		case 0:
			continue
		case 1:
			b[r.Intn(len(b))] ^= 1
		}
		files = append(files, api.File{Name: nameOf(key), Data: b})
	}
	return files
}

// someWound is a drive on which this and that stands and has happened, and may happen still.
func someWound(r *rand.Rand, shape api.Shape, place int, calm bool) patient {
	d := drive.Load(20000, someFiles(r, shape, place))
	switch r.Intn(5) { // changes that are not safe
	case 0:
		d.Create("o63")
		d.Append("o63", make([]byte, r.Intn(20)))
		d.Rename("o62", "t")
	case 1:
		d.Create("o61")
		d.Append("o61", oldOne(shape, place).files["o61"])
		d.Sync("o61") // as layer 13 does ahead of a name's being changed: no healing makes bytes safe that it finds
	case 2:
		d.Remove("o61")
		d.Remove("l")
	}
	w := wound.New(d)
	if calm {
		return patient{w}
	}
	switch r.Intn(16) {
	case 0:
		w.Offline(true)
	case 1, 2:
		w.Arm([]api.Fault{{At: r.Intn(20), Kind: api.FaultIO}, {At: r.Intn(20), Kind: api.FaultFull}})
	case 3:
		w.Fuse(r.Intn(8), r.Intn(6), r.Intn(60))
	}
	return patient{w}
}

// someWorld is a scene of wounds to which this and that happens.
func someWorld(seed int64) scene {
	r := source(seed)
	shape := pick(r, append(shapes(), api.Shape{K: 5, M: 4, Block: 16})...)
	calm := r.Intn(3) == 0
	l := make([]subject, shape.K+shape.M)
	for i := range l {
		if calm || r.Intn(15) > 0 {
			l[i] = someWound(r, shape, i, calm)
		}
	}
	return sceneOf(shape, l)
}

// calm takes away what is still to come; the power, which may have gone at the end, is on again.
func (s scene) calm() {
	for _, d := range s.disks {
		d.(patient).Arm(nil)
		d.(patient).Fuse(-1, 0, 0)
		d.(patient).Power(true)
	}
}

// someFate is what a loss of power keeps.
func someFate(r *rand.Rand) api.Fate {
	f := api.Fate{Dirs: make([]bool, r.Intn(10)), Cuts: make([]int, r.Intn(8))}
	for i := range f.Dirs {
		f.Dirs[i] = r.Intn(2) == 0
	}
	for i := range f.Cuts {
		f.Cuts[i] = pick(r, 0, 1, 30, 31, 99, -1)
	}
	return f
}

// allKeys are the keys of which a file stands on some drive, and those that could.
func allKeys(l []subject) []string {
	keys := slices.Clone(someKeys)
	for _, d := range l {
		if d == nil {
			continue
		}
		for _, f := range d.(patient).Image() {
			if key, is := keyOf(f.Name); is {
				keys = append(keys, key)
			}
		}
	}
	slices.Sort(keys)
	return slices.Compact(keys)
}

// value is what Get tells.
type value struct {
	data string
	gen  api.Gen
	err  api.Errno
}

func valueOf(set *api.Set, key string) value {
	b, gen, err := get.Get(set, nil, key)
	return value{string(b), gen, err}
}

// wantBearing wants of a store behind a Heal that answered OK what P23.4 says, and that it bears M failures anew, at these places. It answers how many keys have a value.
func wantBearing(t *testing.T, s scene, failures [][]int, r *rand.Rand) int {
	t.Helper()
	values, have := map[string]value{}, 0
	for _, key := range allKeys(s.disks) {
		v, seen, err := get.Look(s.set, nil, key)
		wantNumber(t, "Look", err, api.OK)
		for place, x := range seen {
			if v.Kind == api.IsValue {
				fatalUnless(t, x.Kind == api.SeenShard && x.Shard.Gen == v.Gen && x.Shard.Size == v.Size, "%q: the place %d shows %v, not %v", key, place, x, v)
			} else {
				fatalUnless(t, x.Kind == api.SeenNone && v.Kind == api.IsAbsent, "%q: %v, and the place %d shows %v", key, v, place, x)
			}
		}
		values[key] = valueOf(s.set, key)
		if v.Kind == api.IsValue {
			have++
		}
	}
	for i, d := range s.disks {
		l, err := label.Read(d)
		fatalUnless(t, err == api.OK && l == api.Label{Store: s.set.Store, Shape: s.set.Shape, Index: i, Epoch: s.set.Last.Epoch}, "the label of the drive %d: %v, %d", i, l, err)
		fatalUnless(t, d.(patient).Pending() == 0, "at the drive %d something is pending", i)
	}
	for _, places := range failures {
		later := failed(r, s, places)
		for key, want := range values {
			got := valueOf(later, key)
			fatalUnless(t, got == want, "%v fail: Get %q = %v, not %v", places, key, got, want)
		}
	}
	return have
}

// failed is a set over drives that hold what those of the scene do, behind a loss of power; at these places they fail, each in some way.
func failed(r *rand.Rand, s scene, places []int) *api.Set {
	set := *s.set
	set.Disks = make([]api.Disk, len(s.disks))
	for i, d := range s.disks {
		w := wound.New(drive.Load(1<<20, d.(patient).Safe()))
		set.Disks[i] = w
		if !slices.Contains(places, i) {
			continue
		}
		switch r.Intn(5) {
		case 0:
			w.Wipe()
		case 1:
			w.Offline(true)
		case 2:
			set.Disks[i] = nil
		case 3:
			for _, key := range someKeys {
				w.Cut(nameOf(key), r.Intn(30))
			}
		case 4:
			for _, key := range someKeys {
				w.Flip(nameOf(key), r.Intn(40), []byte{1 << r.Intn(8)})
			}
		}
	}
	return &set
}

// someFailures are lists of M places: all of them, or a few, where there are many.
func someFailures(r *rand.Rand, shape api.Shape) [][]int {
	n := shape.K + shape.M
	var all [][]int
	subsets(n, shape.M, func(l []int) { all = append(all, l) })
	r.Shuffle(len(all), func(i, j int) { all[i], all[j] = all[j], all[i] })
	return all[:min(len(all), 10)]
}

// P23.4: behind a Heal that answered OK, whatever stood there and happened, the store bears M failures anew, whichever.
func TestBearsFailuresAnew(t *testing.T) {
	r := source(235)
	healed, have := 0, 0
	for seed := range int64(3000) {
		s := someWorld(seed)
		if _, err := s.heal(t); err != api.OK {
			continue
		}
		s.calm()
		healed++
		have += wantBearing(t, s, someFailures(r, s.set.Shape), r)
	}
	fatalUnless(t, healed > 500 && have > 1000, "%d healed, %d values", healed, have)
}

// P23.4: a loss of power behind such a Heal takes nothing, whatever it keeps.
func TestNothingIsPending(t *testing.T) {
	r := source(236)
	healed := 0
	for seed := range int64(2000) {
		s := someWorld(seed)
		if _, err := s.heal(t); err != api.OK {
			continue
		}
		healed++
		for i, d := range s.disks {
			was := fmt.Sprint(objects(d.(patient).Image()))
			d.(patient).Crash(someFate(r))
			fatalUnless(t, fmt.Sprint(objects(d.(patient).Image())) == was, "the drive %d held %s, and behind a loss of power %s", i, was, fmt.Sprint(objects(d.(patient).Image())))
		}
	}
	fatalUnless(t, healed > 300, "%d", healed)
}

// objects are the files that are the label, or an object's.
func objects(files []api.File) []api.File {
	return slices.DeleteFunc(files, func(f api.File) bool {
		_, is := keyOf(f.Name)
		return !is && f.Name != "l"
	})
}

// P23.6: a Heal behind one that answered OK does nothing, and answers OK again.
func TestASecondHealDoesNothing(t *testing.T) {
	healed := 0
	for seed := range int64(2000) {
		s := someWorld(seed)
		first, err := s.heal(t)
		if err != api.OK {
			continue
		}
		s.calm()
		healed++
		var were []string
		for _, d := range s.disks {
			were = append(were, fmt.Sprint(d.(patient).Image(), d.(patient).Safe()))
		}
		s.wantHealed(t, "again", api.Healed{Keys: first.Keys}, api.OK)
		for i, d := range s.disks {
			is := fmt.Sprint(d.(patient).Image(), d.(patient).Safe())
			fatalUnless(t, is == were[i], "the drive %d held %s, and holds %s", i, were[i], is)
			fatalUnless(t, d.(patient).Calls() == 3+first.Keys, "the drive %d was called %d times", i, d.(patient).Calls())
		}
	}
	fatalUnless(t, healed > 300, "%d", healed)
}

// P23.7: what stands at fewer than K places, at whichever, is taken away, if all answer and none is spoilt; what stands at K or more stays.
func TestTooFewAreTakenAway(t *testing.T) {
	for _, shape := range append(shapes(), api.Shape{K: 4, M: 3, Block: 2}) {
		n := shape.K + shape.M
		every(n, 3, func(ways []int) { // nothing, an older one, a newer one
			if n > 5 && (ways[0]+ways[2]+ways[4])%3 != 0 {
				return
			}
			var l []exhibit
			var count [3]int
			for _, way := range ways {
				l = append(l, []exhibit{nothing, oldOne, youngOne}[way])
				count[way]++
			}
			s := gallery(shape, l)
			s = sceneOf(shape, wounds(s.disks))
			for i, d := range s.disks { // beside it another key that stands everywhere
				wantNumber(t, "Store", bay.Store(d, shardsOf(api.Head{Store: theStore(), Shape: shape, Key: "b", Gen: api.Gen{Epoch: 1, Count: 3}}, []byte("stays"))[i]), api.OK)
			}
			want := api.Healed{Gone: count[1] + count[2], Keys: 1}
			switch {
			case count[2] >= shape.K:
				want = api.Healed{Written: n - count[2], Keys: 2}
			case count[1] >= shape.K:
				want = api.Healed{Written: n - count[1], Keys: 2}
			}
			s.wantHealed(t, fmt.Sprint(shape, ways), want, api.OK)
			for i, d := range s.disks {
				b, err := d.Read("o61")
				wantNumber(t, fmt.Sprintf("%v, %v: Read at the place %d", shape, ways, i), err, map[bool]api.Errno{true: api.ErrMissing}[want.Keys == 1])
				fatalUnless(t, want.Keys == 1 || bytes.Equal(b, []exhibit{oldOne, youngOne}[map[bool]int{true: 1}[count[2] >= shape.K]](shape, i).files["o61"]), "the drive %d holds another shard", i)
			}
			wantGet(t, s.set, "b", "stays")
		})
	}
}

// P23.7, P23.4: what never counted is gone for good: no loss of power brings it back.
func TestWhatIsTakenAwayStaysAway(t *testing.T) {
	r := source(237)
	for run := range 300 {
		shape := shapes()[1+run%4]
		n := shape.K + shape.M
		s := sceneOf(shape, wounds(gallery(shape, slices.Concat(slices.Repeat([]exhibit{oldOne}, shape.K-1), slices.Repeat([]exhibit{nothing}, n-shape.K+1))).disks))
		s.wantHealed(t, "too few", api.Healed{Gone: shape.K - 1}, api.OK)
		for i, d := range s.disks {
			d.(patient).Crash(someFate(r))
			wantNames(t, d.(patient).Wound, "l")
			fatalUnless(t, d.(patient).Pending() == 0, "at the drive %d something is pending", i)
		}
	}
}

// P23.1, P23.2: while a drive is not there, offline or refuses, nothing is taken away, however few shards there seem to be.
func TestWhatIsNotHeardCouldBeEnough(t *testing.T) {
	for _, shape := range shapes() {
		n := shape.K + shape.M
		for silent := range n {
			for way := range 4 {
				s := sceneOf(shape, wounds(shelves(shape, "a").disks))
				for i, d := range s.disks { // just K are there, and one of them is silent
					if (i+n-silent)%n >= shape.K {
						wantNumber(t, "Drop", bay.Drop(d, "a"), api.OK)
					}
					d.(patient).Arm(nil)
				}
				w := s.disks[silent].(patient)
				switch way {
				case 0:
					w.Offline(true)
				case 1:
					s.set.Disks[silent], s.disks[silent] = nil, nil
				case 2:
					w.Arm([]api.Fault{{At: 3, Kind: api.FaultIO}})
				case 3:
					w.Arm([]api.Fault{{At: 0, Kind: api.FaultIO}, {At: 2, Kind: api.FaultIO}})
				}
				h, err := s.heal(t)
				fatalUnless(t, err == api.ErrDegraded && h.Gone == 0 && h.Written == 0, "%v: Heal = %v, %d", shape, h, err)
				w.Offline(false)
				w.Arm(nil)
				s.set.Disks[silent], s.disks[silent] = w, w
				s.wantHealed(t, "all are there again", api.Healed{Written: shape.M, Keys: 1}, api.OK)
				wantGet(t, s.set, "a", "of a")
			}
		}
	}
}

// harm harms a place as P20.4 says, in one way of many.
func harm(s scene, place, way int) {
	w := s.disks[place].(patient)
	switch way {
	case 0:
		s.set.Disks[place] = nil
	case 1:
		w.Offline(true)
	case 2:
		w.Arm(refusals(60))
	case 3:
		w.Wipe()
	case 4:
		w.Cut("o61", 40)
		w.Cut("o62", 0)
		w.Cut("l", 9)
	case 5:
		w.Flip("o61", 43, []byte{0x80, 0xff, 0xff, 0x7f})
		w.Flip("o62", 3, []byte{1})
	}
}

const ways = 6

func refusals(n int) []api.Fault {
	var plan []api.Fault
	for at := range n {
		plan = append(plan, api.Fault{At: at, Kind: api.FaultIO})
	}
	return plan
}

// stored2 is a store in which the objects "a" and "b" are stored at all places, each Store being answered OK.
func stored2(t *testing.T, shape api.Shape) scene {
	t.Helper()
	n := shape.K + shape.M
	s := sceneOf(shape, wounds(spies(n, func(i int) *spy { return labelled(shape, i) })))
	for _, key := range []string{"a", "b"} {
		shards := shardsOf(api.Head{Store: theStore(), Shape: shape, Key: key, Gen: api.Gen{Epoch: 3, Count: 2}}, []byte("the object "+key))
		for i, d := range s.disks {
			wantNumber(t, "Store", bay.Store(d, shards[i]), api.OK)
		}
	}
	for _, d := range s.disks {
		d.(patient).Arm(nil)
	}
	return s
}

// wantBoth wants both objects to be told, as soon as the power is on.
func wantBoth(t *testing.T, says string, s scene) {
	t.Helper()
	for _, key := range []string{"a", "b"} {
		want := value{"the object " + key, api.Gen{Epoch: 3, Count: 2}, api.OK}
		got := valueOf(s.set, key)
		fatalUnless(t, got == want, "%s: Get %q = %v", says, key, got)
	}
}

// wake is the loss of power, if there was one, behind which the power is on; the plans and fuses that were to strike the healing are gone.
func wake(s scene, harmed []int, fate func(i int) api.Fate) {
	for i, d := range s.disks {
		w := d.(patient)
		if !w.On() {
			w.Crash(fate(i))
		}
		w.Power(true)
		w.Fuse(-1, 0, 0)
		if !slices.Contains(harmed, i) {
			w.Arm(nil)
		}
	}
}

// fates are all there are for so many changes of names, with some cuts of bytes.
func fates(pending int) []api.Fate {
	var all []api.Fate
	for kept := range 1 << pending {
		dirs := make([]bool, pending)
		for i := range dirs {
			dirs[i] = kept>>i&1 == 1
		}
		for _, cut := range []int{0, 20} {
			all = append(all, api.Fate{Dirs: dirs, Cuts: []int{cut, cut, cut, cut, cut}})
		}
	}
	return all
}

// P23.5: the power goes at each call of each drive in each round, whatever each fate keeps.
func TestThePowerTakesNothingAway(t *testing.T) {
	for _, shape := range []api.Shape{{K: 1, M: 1, Block: 4}, small()} {
		n := shape.K + shape.M
		downs := 0
		for harmed := range n {
			for way := range ways {
				for struck := range n {
					for round := range 6 {
						for call := range 7 {
							run := func() (scene, api.Errno) {
								s := stored2(t, shape)
								harm(s, harmed, way)
								s.disks[struck].(patient).Fuse(round, call, 11*call)
								_, err := s.heal(t)
								return s, err
							}
							s, err := run()
							pending := 0
							for _, d := range s.disks {
								pending = max(pending, d.(patient).Pending())
							}
							if err != api.ErrDown {
								wake(s, []int{harmed}, func(int) api.Fate { return api.Fate{} })
								wantBoth(t, "the power stays on", s)
								continue
							}
							downs++
							for _, f := range fates(pending) {
								s, _ := run()
								wake(s, []int{harmed}, func(int) api.Fate { return f })
								wantBoth(t, fmt.Sprintf("%v, harmed %d by %d, struck %d in round %d ahead of the call %d, kept %v", shape, harmed, way, struck, round, call, f), s)
							}
						}
					}
				}
			}
		}
		fatalUnless(t, downs > 200, "%d", downs)
	}
}

// stopper is a drive at whose Rest in some round the healing is stopped.
type stopper struct {
	api.Disk
	done   chan struct{}
	behind int
}

func (s *stopper) Rest(off bool) {
	s.Disk.Rest(off)
	s.behind--
	if s.behind == 0 {
		close(s.done)
	}
}

// P23.5: however a Heal ends, one behind the other: refused calls at all drives, stops, losses of power, with M places or fewer harmed.
func TestItTakesNothingAway(t *testing.T) {
	met := map[api.Errno]int{}
	for seed := range int64(4000) {
		r := source(seed)
		shape := pick(r, append(shapes(), api.Shape{K: 4, M: 3, Block: 2})...)
		n := shape.K + shape.M
		s := stored2(t, shape)
		harmed := r.Perm(n)[:r.Intn(shape.M+1)]
		for _, i := range harmed {
			harm(s, i, r.Intn(ways))
		}
		for range 4 {
			var done chan struct{}
			set := *s.set
			set.Disks = slices.Clone(s.set.Disks)
			for i, d := range set.Disks {
				w := s.disks[i].(patient)
				switch r.Intn(8) {
				case 0, 1:
					if !slices.Contains(harmed, i) {
						w.Arm([]api.Fault{{At: r.Intn(10), Kind: pick(r, api.FaultIO, api.FaultFull)}, {At: r.Intn(10), Kind: api.FaultIO}})
					}
				case 2:
					if r.Intn(2) == 0 {
						w.Fuse(r.Intn(6), r.Intn(7), r.Intn(60))
					}
				case 3:
					if done == nil && d != nil && r.Intn(2) == 0 {
						done = make(chan struct{})
						set.Disks[i] = &stopper{d, done, 1 + r.Intn(6)}
					}
				}
			}
			_, err := heal.Heal(&set, done)
			met[err]++
			wake(s, harmed, func(int) api.Fate { return someFate(r) })
			wantBoth(t, fmt.Sprintf("%v, harmed %v, Heal = %d", shape, harmed, err), s)
		}
	}
	wantMet(t, met, api.OK, api.ErrDegraded, api.ErrDown, api.ErrStopped)
}

// P23.5: each call of each drive is refused, beside the harm.
func TestRefusedCallsTakeNothingAway(t *testing.T) {
	for _, shape := range shapes() {
		n := shape.K + shape.M
		for harmed := range n {
			for way := range ways {
				for faulty := range n {
					for call := range 16 {
						s := stored2(t, shape)
						harm(s, harmed, way)
						if faulty != harmed {
							s.disks[faulty].(patient).Arm([]api.Fault{{At: call, Kind: api.FaultIO}})
						}
						h, err := s.heal(t)
						fatalUnless(t, h.Gone == 0 && (err == api.OK || err == api.ErrDegraded), "Heal = %v, %d", h, err)
						wake(s, []int{harmed}, nil)
						wantBoth(t, fmt.Sprintf("%v, harmed %d by %d, the call %d of %d", shape, harmed, way, call, faulty), s)
					}
				}
			}
		}
	}
}

package drop_test

import (
	"bytes"
	"fmt"
	"math/rand"
	"slices"
	"strings"
	"testing"

	"cairn/api"
	"cairn/drive"
	"cairn/drop"
	"cairn/fan"
	"cairn/get"
	"cairn/opening"
	"cairn/put"
	"cairn/wound"
)

// someWound is a drive on which this and that stands and has happened, and may happen still.
func someWound(r *rand.Rand, shape api.Shape, place int) patient {
	files := []api.File{{Name: "l", Data: []byte("label")}, {Name: "o62", Data: make([]byte, r.Intn(50))}, {Name: "o6161"}, {Name: "zzz"}}
	if r.Intn(8) > 0 {
		files = append(files, api.File{Name: "o61", Data: pick(r, oldOne, oldOne, oldOne, oldOne, youngOne, futureOne)(shape, place).bytes})
	}
	d := drive.Load(10000, files)
	switch r.Intn(4) { // changes that are not safe
	case 0:
		d.Create("b")
		d.Append("b", make([]byte, r.Intn(20)))
		d.Rename("o62", "t")
		d.Remove("zzz")
	case 1:
		d.Create("o61")
		d.Append("o61", oldOne(shape, place).bytes)
	}
	w := wound.New(d)
	switch r.Intn(16) {
	case 0:
		w.Offline(true)
	case 1, 2:
		w.Arm([]api.Fault{{At: r.Intn(4), Kind: api.FaultIO}, {At: r.Intn(4), Kind: api.FaultFull}})
	case 3:
		w.Fuse(r.Intn(3), r.Intn(4), r.Intn(60))
	case 4:
		w.Cut("o61", r.Intn(60))
	case 5:
		w.Flip("o61", r.Intn(40), []byte{1, 2, 3})
	}
	return patient{w}
}

// someWorld is a scene of wounds to which this and that happens.
func someWorld(seed int64) scene {
	r := source(seed)
	shape := pick(r, append(shapes(), api.Shape{K: 5, M: 4, Block: 16})...)
	l := make([]subject, shape.K+shape.M)
	for i := range l {
		if r.Intn(15) > 0 {
			l[i] = someWound(r, shape, i)
		}
	}
	return sceneOf(shape, l, pick(r, "a", "a", "a", "a", "c"))
}

// someFate is what a loss of power keeps.
func someFate(r *rand.Rand) api.Fate {
	f := api.Fate{Dirs: make([]bool, r.Intn(10)), Cuts: make([]int, r.Intn(8))}
	for i := range f.Dirs {
		f.Dirs[i] = r.Intn(2) == 0
	}
	for i := range f.Cuts {
		f.Cuts[i] = pick(r, 0, 1, 30, 31, 99, -1)
	}
	return f
}

// witness is a drive that notes what it was asked to take away, and whether that was done and made safe.
type witness struct {
	patient
	removes int
	removed bool
	gone    bool
}

func (w *witness) Remove(name string) api.Errno {
	err := w.patient.Remove(name)
	w.removes++
	w.removed = err == api.OK || err == api.ErrMissing
	return err
}

func (w *witness) SyncDir() api.Errno {
	err := w.patient.SyncDir()
	w.gone = w.removed && err == api.OK
	return err
}

// observed is the scene with a witness in the place of each drive.
func observed(s scene) (scene, []*witness) {
	l := make([]*witness, len(s.disks))
	for i, d := range s.disks {
		if d != nil {
			l[i] = &witness{patient: d.(patient)}
			s.disks[i] = l[i]
		}
	}
	s.set.Disks = disksOf(s.disks)
	return s, l
}

// P21.2: at the drives that answered OK the file is away and stays so across losses of power, whatever the others did and whatever Delete answers; OK is K + 1 of these, no fewer.
func TestWhatWasTakenAwayStaysAway(t *testing.T) {
	met := map[string]int{}
	for seed := range int64(12000) {
		s, l := observed(someWorld(seed))
		r := source(seed)
		err := s.delete(t)
		well := 0
		for i, w := range l {
			if w == nil || !w.gone {
				continue
			}
			well++
			met[fmt.Sprint("gone, ", int(err))]++
			for range 3 {
				_, no := w.Drive.Read(nameOf(s.key))
				fatalUnless(t, no == api.ErrMissing, "Delete = %d; at the drive %d, which answered OK, Read = %d", err, i, no)
				w.Crash(someFate(r))
			}
		}
		k := s.set.Shape.K
		fatalUnless(t, err != api.OK || well > k, "Delete = OK, at %d of %v", well, s.set.Shape)
		fatalUnless(t, err != api.ErrNotFound && err != api.ErrStopped || well == 0, "Delete = %d, at %d the file is gone", err, well)
		if err == api.OK && well == k+1 {
			met["just K + 1"]++
		}
		if err == api.ErrQuorum && well == k {
			met["just K"]++
		}
	}
	for _, what := range []string{"gone, 0", "gone, 122", "gone, 170", "just K + 1", "just K"} {
		fatalUnless(t, met[what] > 100, "%s: %v", what, met)
	}
}

// P21.2: what a drive holds is as it was, but for the key's file; where it refused the Remove, all is as it was, and so at all drives, if there was no second round.
func TestNothingElseIsTakenAway(t *testing.T) {
	met := map[string]int{}
	other := func(files []api.File, key string) string {
		return fmt.Sprint(slices.DeleteFunc(files, func(f api.File) bool { return f.Name == nameOf(key) }))
	}
	for seed := range int64(8000) {
		s, l := observed(someWorld(seed))
		before := make([]string, len(l))
		rest := make([]string, len(l))
		for i, w := range l {
			if w != nil {
				before[i], rest[i] = w.files(), other(w.Image(), s.key)
			}
		}
		err := s.delete(t)
		for i, w := range l {
			if w == nil {
				continue
			}
			fatalUnless(t, other(w.Image(), s.key) == rest[i], "Delete = %d: the other files of the drive %d were %s, and are %s", err, i, rest[i], other(w.Image(), s.key))
			if !w.removed {
				fatalUnless(t, w.files() == before[i], "Delete = %d: the drive %d held %s, and holds %s", err, i, before[i], w.files())
				met["as it was"]++
			}
			fatalUnless(t, w.removes == 0 || err != api.ErrNotFound, "a key that is not there was removed")
			met[fmt.Sprint(w.removes, " of ", int(err))]++
		}
	}
	for _, what := range []string{"as it was", "0 of 200", "0 of 122", "0 of 170", "1 of 0", "1 of 122", "1 of 170"} {
		fatalUnless(t, met[what] > 50, "%s: %v", what, met)
	}
}

// The ways in which a drive may come through the second round of a Delete.
const (
	goesWell = iota
	removeRefused
	syncDirRefused
	struckAtRemove
	struckAtSyncDir
	struckAtTheEnd
	allWays
)

// strike makes the drive one to which this happens in its second round.
func strike(p patient, way int) {
	switch way {
	case removeRefused:
		p.Arm([]api.Fault{{At: 1, Kind: api.FaultIO}})
	case syncDirRefused:
		p.Arm([]api.Fault{{At: 2, Kind: api.FaultIO}})
	case struckAtRemove, struckAtSyncDir, struckAtTheEnd:
		p.Fuse(1, way-struckAtRemove, 0)
	}
}

// restore is the power back and the plans and fuses gone, behind a loss of power of which each drive keeps all changes of names that were pending, or none.
func restore(s scene, kept []int) {
	for i, d := range s.disks {
		p := d.(patient)
		keeps := kept[i] == 1
		p.Crash(api.Fate{Dirs: []bool{keeps, keeps, keeps, keeps, keeps, keeps}, Cuts: []int{99, 99, 99, 99}})
		p.Fuse(-1, 0, 0)
		p.Arm(nil)
		p.Power(true)
	}
}

// pendingAt are the drives on which a change of names is not safe.
func pendingAt(s scene) []int {
	var l []int
	for i, d := range s.disks {
		if d.(patient).Pending() > 0 {
			l = append(l, i)
		}
	}
	return l
}

// choices are all lists of m numbers below n, rising.
func choices(n, m int) [][]int {
	if m == 0 {
		return [][]int{nil}
	}
	var all [][]int
	for last := m - 1; last < n; last++ {
		for _, l := range choices(last, m-1) {
			all = append(all, append(l, last))
		}
	}
	return all
}

// wantGone wants Get to answer ErrNotFound, and so with any M drives that fail, in ways that change from one to the next.
func wantGone(t *testing.T, s scene) {
	t.Helper()
	wantGet(t, s.set, s.key, "", api.ErrNotFound)
	for turn, fail := range choices(len(s.disks), s.set.Shape.M) {
		set := *s.set
		set.Disks = slices.Clone(s.set.Disks)
		for j, i := range fail {
			form, is := s.disks[i].(patient).Drive.Read(nameOf(s.key))
			w := wound.New(drive.New(1000))
			switch (turn + j) % 5 {
			case 0:
				w = nil
			case 1:
				w.Offline(true)
			case 2:
				w.Arm([]api.Fault{{At: 0, Kind: api.FaultIO}})
			case 3: // wiped
			case 4: // spoilt, where it stands
				if is == api.OK {
					form[len(form)-1] ^= 1
					w = wound.New(drive.Load(1000, []api.File{{Name: nameOf(s.key), Data: form}}))
				}
			}
			set.Disks[i] = nil
			if w != nil {
				set.Disks[i] = w
			}
		}
		wantGet(t, &set, s.key, "", api.ErrNotFound)
	}
}

// wantOneOfTwo wants Get to answer the object or ErrNotFound, and tells which.
func wantOneOfTwo(t *testing.T, s scene) bool {
	t.Helper()
	data, _, err := get.Get(s.set, nil, s.key)
	fatalUnless(t, err == api.OK && string(data) == "hello" || err == api.ErrNotFound && data == nil, "Get = %q, %d", data, err)
	return err == api.OK
}

// P21.3: n whole shards that are safe; each drive comes through the second round in each way, and each loss of power behind it keeps what it will. Behind OK the object is gone, whichever M drives fail; else it is there or it is not, and a Delete brings it to its end.
func TestWhatWasDeletedStaysAway(t *testing.T) {
	met := map[string]int{}
	for _, shape := range shapes() {
		n := shape.K + shape.M
		turn := 0
		every(n, allWays, func(ways []int) {
			if turn++; n > 4 && turn%7 > 0 {
				return
			}
			play := func() (scene, api.Errno) {
				s := sceneOf(shape, wounds(shape), "a")
				for i, d := range s.disks {
					strike(d.(patient), ways[i])
				}
				return s, s.delete(t)
			}
			s, err := play()
			met[fmt.Sprint("Delete ", int(err))]++
			loose := pendingAt(s)
			if err != api.ErrDown {
				if err == api.OK && slices.Max(ways) < struckAtRemove {
					wantGone(t, s)
				} else if slices.Max(ways) < struckAtRemove {
					wantOneOfTwo(t, s)
				}
			}
			every(len(loose), 2, func(keeps []int) {
				s, again := play()
				fatalUnless(t, again == err, "Delete = %d, and then %d", err, again)
				kept := make([]int, n)
				for j, i := range loose {
					kept[i] = keeps[j]
				}
				restore(s, kept)
				if err == api.OK {
					wantGone(t, s)
					return
				}
				stands := wantOneOfTwo(t, s)
				met[fmt.Sprint("behind ", int(err), " ", stands)]++
				want := api.ErrNotFound
				if stands {
					want = api.OK
				}
				wantNumber(t, "another Delete", s.delete(t), want)
				restore(s, kept)
				wantGone(t, s)
			})
		})
	}
	for _, what := range []string{"Delete 0", "Delete 122", "Delete 170", "behind 122 true", "behind 122 false", "behind 170 true", "behind 170 false"} {
		fatalUnless(t, met[what] > 10, "%s: %v", what, met)
	}
}

// P21.3: one drive is offline, or refused or struck at one of its calls, those of the first round too: behind OK the object is gone, else it is there or it is not; where the power went in the first round, it is there.
func TestRefusedAtEachCall(t *testing.T) {
	for _, shape := range shapes() {
		n := shape.K + shape.M
		for at := range n {
			for call := range 3 {
				for _, way := range []string{"fault", "fuse", "offline"} {
					for kept := range 2 {
						s := sceneOf(shape, wounds(shape), "a")
						p := s.disks[at].(patient)
						switch way {
						case "fault":
							p.Arm([]api.Fault{{At: call, Kind: api.FaultIO}})
						case "fuse":
							p.Fuse(min(1, call), max(0, call-1), 0)
						case "offline":
							p.Offline(true)
						}
						err := s.delete(t)
						p.Offline(false)
						keeps := slices.Repeat([]int{kept}, n)
						restore(s, keeps)
						switch {
						case err == api.OK:
							wantGone(t, s)
						case way == "fuse" && call == 0:
							wantNumber(t, "Delete", err, api.ErrDown)
							wantGet(t, s.set, "a", "hello", api.OK)
						default:
							wantOneOfTwo(t, s)
						}
						fatalUnless(t, err == api.OK || err == api.ErrDown || err == api.ErrQuorum && shape.M == 1, "%v, %s at the call %d: Delete = %d", shape, way, call, err)
					}
				}
			}
		}
	}
}

// P21.3: behind a Delete that answered OK other keys are put and deleted, the power goes at whatever call of that, and the object stays away.
func TestItStaysAwayBehindLaterCalls(t *testing.T) {
	r := source(213)
	losses := 0
	for run := range 600 {
		shape := shapes()[run%len(shapes())]
		s := sceneOf(shape, wounds(shape), "a")
		for _, i := range r.Perm(len(s.disks))[:r.Intn(shape.M)] {
			strike(s.disks[i].(patient), pick(r, removeRefused, syncDirRefused))
		}
		wantNumber(t, "Delete", s.delete(t), api.OK)
		for range 12 {
			s.disks[r.Intn(len(s.disks))].(patient).Fuse(r.Intn(5), r.Intn(6), r.Intn(60))
			for range 3 {
				key := pick(r, "b", "c", "aa")
				put.Put(s.set, nil, key, make([]byte, r.Intn(20)))
				drop.Delete(s.set, nil, pick(r, key, "b"))
			}
			if !s.disks[0].(patient).On() {
				losses++
				for _, d := range s.disks {
					d.(patient).Crash(someFate(r))
					d.(patient).Fuse(-1, 0, 0)
					d.(patient).Power(true)
				}
			}
			for _, d := range s.disks {
				d.(patient).Fuse(-1, 0, 0)
			}
			wantGone(t, s)
		}
	}
	fatalUnless(t, losses > 1000, "the power went %d times", losses)
}

// bare is a set of the drives within the wounds, to which nothing happens.
func bare(s scene) *api.Set {
	set := *s.set
	set.Disks = make([]api.Disk, len(s.disks))
	for i, d := range s.disks {
		if d != nil {
			set.Disks[i] = d.(patient).Drive
		}
	}
	return &set
}

// looks is what Look says of some keys.
func looks(t *testing.T, set *api.Set, keys ...string) string {
	t.Helper()
	var l []string
	for _, key := range keys {
		v, seen, err := get.Look(set, nil, key)
		wantNumber(t, "Look", err, api.OK)
		l = append(l, fmt.Sprintf("%q %v %q", key, v, fmt.Sprint(seen)))
	}
	return strings.Join(l, "\n")
}

// P21.4: what Look says of every other key is as it was, whatever becomes of the Delete.
func TestOtherKeys(t *testing.T) {
	met := map[api.Errno]int{}
	keys := []string{"b", "aa", "\x61\x00", "A", "o61", "d", "e", strings.Repeat("a", 255)}
	for seed := range int64(3000) {
		r := source(seed)
		s := someWorld(seed)
		set := bare(s)
		for i, d := range set.Disks { // a place without a drive has none of these
			if d == nil {
				set.Disks[i] = drive.New(10000)
			}
		}
		for _, key := range keys[1:] {
			put.Put(set, nil, key, []byte("of "+key))
		}
		for _, d := range s.disks {
			if d != nil && r.Intn(3) == 0 { // not at all places, nor all safe
				d.(patient).Drive.Remove(nameOf(pick(r, keys...)))
				d.(patient).Drive.Flip(nameOf(pick(r, keys...)), 10, []byte{1})
			}
		}
		before := looks(t, bare(s), keys...)
		met[s.delete(t)]++
		after := looks(t, bare(s), keys...)
		fatalUnless(t, before == after, "Look said\n%s\nand says\n%s", before, after)
	}
	wantMet(t, met, api.OK, api.ErrNotFound, api.ErrQuorum, api.ErrDown)
}

// P21.4: keys whose names are near that of another one, each deleted in its turn.
func TestKeysThatAreNear(t *testing.T) {
	keys := []string{"a", "aa", "aaa", "b", "A", "\x00", "\x00\x00", "61", "o61", "t", "l", strings.Repeat("a", 254), strings.Repeat("a", 255)}
	set, w := opened(t, small())
	for _, key := range keys {
		wantNumber(t, "Put", put.Put(set, nil, key, []byte("of "+key)), api.OK)
	}
	for i, key := range keys {
		before := looks(t, set, keys[i+1:]...)
		wantNumber(t, "Delete", drop.Delete(set, nil, key), api.OK)
		fatalUnless(t, looks(t, set, keys[i+1:]...) == before, "the Delete of %q changed another one", key)
		for _, gone := range keys[:i+1] {
			wantGet(t, set, gone, "", api.ErrNotFound)
		}
	}
	for i, x := range w {
		fatalUnless(t, len(x.Safe()) == 1 && x.Pending() == 0, "the drive %d holds %v", i, x.Safe())
	}
}

// P21.5: of a key that is not there ErrNotFound again and again, and a Read of each drive, no more; also where some shards stand, too few to count, or some places are hidden.
func TestNotThere(t *testing.T) {
	for _, shape := range append(shapes(), api.Shape{K: 6, M: 5, Block: 2}) {
		n := shape.K + shape.M
		for shards := range shape.K {
			for hidden := range shape.M + 1 {
				for _, veil := range []exhibit{nobody, spoiltOne, refused(nothing, theRead, api.ErrIO)} {
					for _, stray := range []exhibit{oldOne, youngOne} {
						l := slices.Concat(slices.Repeat([]exhibit{veil}, hidden), slices.Repeat([]exhibit{nothing}, n))[:n-shards]
						s := gallery(shape, append(l, slices.Repeat([]exhibit{stray}, shards)...))
						for again := 1; again < 5; again++ {
							wantNumber(t, "Delete", s.delete(t), api.ErrNotFound)
							want := strings.Join(slices.Repeat([]string{asksOnce}, again), "; ")
							for i, d := range s.disks {
								fatalUnless(t, d == nil || d.chart() == want, "the drive %d was asked %s", i, d)
							}
						}
					}
				}
			}
		}
	}
	set, w := opened(t, small())
	for _, x := range w {
		x.Arm(nil)
	}
	for again := range 9 {
		wantNumber(t, "Delete", drop.Delete(set, nil, "a"), api.ErrNotFound)
		for i, x := range w {
			fatalUnless(t, x.Calls() == again+1 && x.Pending() == 0, "the drive %d was called %d times", i, x.Calls())
		}
	}
}

// possible is what a key may come to: values, and absent.
type possible struct {
	values []string
	absent bool
}

// holds tells whether a reading of the key may be answered so.
func (p possible) holds(data []byte, err api.Errno) bool {
	return err == api.OK && slices.Contains(p.values, string(data)) || err == api.ErrNotFound && p.absent
}

// world is a store that was formatted, over drives some of which are at fault now and then.
type world struct {
	set    *api.Set
	w      []*witness
	faulty []int
	p      map[string]possible
}

func newWorld(t *testing.T, r *rand.Rand, shape api.Shape) *world {
	t.Helper()
	x := &world{p: map[string]possible{}, faulty: r.Perm(shape.K + shape.M)[:r.Intn(shape.M+1)]}
	for range shape.K + shape.M {
		x.w = append(x.w, &witness{patient: patient{wound.New(drive.New(1 << 20))}})
	}
	wantNumber(t, "Format", opening.Format(x.disks(), shape, theStore()), api.OK)
	for _, key := range []string{"a", "b", "c"} {
		x.p[key] = possible{absent: true}
	}
	x.open(t)
	return x
}

func (x *world) disks() []api.Disk {
	var l []api.Disk
	for _, w := range x.w {
		l = append(l, w)
	}
	return l
}

func (x *world) open(t *testing.T) {
	t.Helper()
	set, err := opening.Open(x.disks())
	wantNumber(t, "Open", err, api.OK)
	x.set = set
}

// lose is a loss of power, and the opening behind it.
func (x *world) lose(t *testing.T, r *rand.Rand) {
	t.Helper()
	for _, w := range x.w {
		w.Crash(someFate(r))
		w.Fuse(-1, 0, 0)
		w.Power(true)
	}
	x.open(t)
}

// misfortune is something that happens to a drive that is at fault.
func misfortune(r *rand.Rand, w *witness) {
	switch r.Intn(12) {
	case 0:
		w.Offline(true)
	case 1:
		w.Arm([]api.Fault{{At: r.Intn(9), Kind: api.FaultIO}, {At: r.Intn(9), Kind: api.FaultFull}})
	case 2:
		w.Flip(pick(r, "o61", "o62"), r.Intn(50), []byte{1 << r.Intn(8)})
	case 3:
		w.Cut(pick(r, "o61", "o62"), r.Intn(30))
	case 4:
		w.Wipe()
	case 5, 6, 7:
		w.Offline(false)
	}
}

// put puts something, and keeps what is possible behind it.
func (x *world) put(t *testing.T, r *rand.Rand, key string) api.Errno {
	t.Helper()
	data := fmt.Sprint(key, strings.Repeat("x", r.Intn(20)), r.Intn(1000))
	p, last := x.p[key], x.set.Last
	err := put.Put(x.set, nil, key, []byte(data))
	switch {
	case err == api.OK:
		fatalUnless(t, p.absent, "Put %q = OK, of %v", key, p)
		x.p[key] = possible{values: []string{data}}
	case x.set.Last != last: // an error of its writing
		x.p[key] = possible{append(slices.Clone(p.values), data), p.absent}
	case err == api.ErrExists:
		fatalUnless(t, len(p.values) > 0, "Put %q = ErrExists, of %v", key, p)
	}
	return err
}

// delete deletes, and keeps what is possible behind it.
func (x *world) delete(t *testing.T, r *rand.Rand, key string) api.Errno {
	t.Helper()
	p, asked := x.p[key], 0
	for _, w := range x.w {
		asked -= w.removes
	}
	err := drop.Delete(x.set, pick(r, nil, nil, nil, nil, nil, nil, fan.Done(true)), key)
	for _, w := range x.w {
		asked += w.removes
	}
	switch {
	case err == api.OK:
		fatalUnless(t, len(p.values) > 0, "Delete %q = OK, of %v", key, p)
		x.p[key] = possible{absent: true}
	case asked > 0: // an error of its round of taking away
		x.p[key] = possible{p.values, true}
	case err == api.ErrNotFound:
		fatalUnless(t, p.absent, "Delete %q = ErrNotFound, of %v", key, p)
	default:
		fatalUnless(t, err == api.ErrStopped || err == api.ErrDown, "Delete %q = %d", key, err)
	}
	return err
}

// W1, W2, W3 of what layers 18 to 21 do: with M drives or fewer that ever were at fault, and across losses of power, each call answers what the Puts and Deletes have made possible; with M - 1 or fewer Puts and Deletes are acknowledged.
func TestKeepsToWhatIsPossible(t *testing.T) {
	r := source(214)
	met := map[string]int{}
	for run := range 600 {
		shape := shapes()[run%len(shapes())]
		x := newWorld(t, r, shape)
		for range 80 {
			key := pick(r, "a", "b", "c")
			for _, i := range x.faulty {
				misfortune(r, x.w[i])
			}
			if r.Intn(4) == 0 {
				x.w[r.Intn(len(x.w))].Fuse(r.Intn(4), r.Intn(6), r.Intn(60))
			}
			err, says := api.OK, ""
			switch r.Intn(4) {
			case 0, 1:
				err, says = x.put(t, r, key), "Put"
			case 2:
				err, says = x.delete(t, r, key), "Delete"
			}
			met[fmt.Sprint(says, " ", int(err))]++
			fatalUnless(t, err != api.ErrQuorum || len(x.faulty) == shape.M, "%v, %d at fault: %s = ErrQuorum", shape, len(x.faulty), says)
			data, _, err := get.Get(x.set, nil, key)
			if err == api.ErrDown {
				met["down"]++
				x.lose(t, r)
				if data, _, err = get.Get(x.set, nil, key); err == api.ErrDown {
					continue
				}
			}
			fatalUnless(t, x.p[key].holds(data, err), "%v, %d at fault: Get %q = %q, %d, not of %v", shape, len(x.faulty), key, data, err, x.p[key])
			met[fmt.Sprint(int(err), " of ", min(2, len(x.p[key].values)), " ", x.p[key].absent)]++
		}
	}
	for _, what := range []string{"down", "Put 0", "Put 170", "Delete 0", "Delete 122", "Delete 160", "Delete 170", "Delete 200", "0 of 1 false", "0 of 1 true", "0 of 2 true", "200 of 0 true", "200 of 1 true"} {
		fatalUnless(t, met[what] > 50, "%s: %v", what, met)
	}
}

// silence makes a drive one that is not there or refuses a call, in one way of many.
func silence(r *rand.Rand, shape api.Shape, place int) api.Disk {
	w := wounds(shape)[place].(patient).Wound
	switch r.Intn(4) {
	case 0:
		return nil
	case 1:
		w.Offline(true)
	case 2:
		w.Arm([]api.Fault{{At: r.Intn(3), Kind: api.FaultIO}})
	default:
		return refused(oldOne, r.Intn(3), pick[api.Errno](r, 120, 121, 111, 112, 91, 1, 2, 7, -1))(shape, place)
	}
	return w
}

// W3: with M - 1 drives or fewer that are not there or refuse, it is answered OK; with M that answer nothing it is not, and the object is gone all the same, or can't be made up again.
func TestItServes(t *testing.T) {
	r := source(215)
	for range 2000 {
		shape := pick(r, append(shapes(), api.Shape{K: 4, M: 4, Block: 3}, api.Shape{K: 6, M: 3, Block: 1})...)
		s := sceneOf(shape, wounds(shape), "a")
		order := r.Perm(len(s.disks))
		for _, i := range order[:pick(r, 0, shape.M-1, r.Intn(shape.M))] {
			s.set.Disks[i] = silence(r, shape, i)
		}
		wantNumber(t, "Delete", s.delete(t), api.OK)

		s = sceneOf(shape, wounds(shape), "a")
		for _, i := range order[:shape.M] {
			s.disks[i].(patient).Offline(true)
		}
		wantNumber(t, "Delete with M drives offline", s.delete(t), api.ErrQuorum)
		for _, i := range order[:shape.M] {
			s.disks[i].(patient).Offline(false)
		}
		if shape.M < shape.K {
			wantGet(t, s.set, "a", "", api.ErrNotFound)
		} else { // M shards are left, and these are K
			wantGet(t, s.set, "a", "hello", api.OK)
		}
	}
}

// Without faults the store answers as a map does: what was deleted may be put again, as another generation.
func TestAsAMap(t *testing.T) {
	r := source(216)
	for _, shape := range append(shapes(), api.Shape{K: 6, M: 5, Block: 7}) {
		set, w := opened(t, shape)
		have := map[string][]byte{}
		for range 500 {
			key := pick(r, "a", "b", "\x00", fmt.Sprint(r.Intn(30)))
			_, is := have[key]
			if r.Intn(2) == 0 {
				data := make([]byte, r.Intn(60))
				r.Read(data)
				if err := put.Put(set, nil, key, data); is {
					wantNumber(t, "Put", err, api.ErrExists)
				} else {
					wantNumber(t, "Put", err, api.OK)
					have[key] = data
				}
			} else {
				last := set.Last
				if err := drop.Delete(set, nil, key); is {
					wantNumber(t, "Delete", err, api.OK)
					delete(have, key)
				} else {
					wantNumber(t, "Delete", err, api.ErrNotFound)
				}
				fatalUnless(t, set.Last == last, "Last was %v, and is %v", last, set.Last)
			}
			for key := range have {
				data, _, err := get.Get(set, nil, key)
				fatalUnless(t, err == api.OK && bytes.Equal(data, have[key]), "Get %q = %v, %d", key, data, err)
			}
			for i, x := range w {
				fatalUnless(t, len(x.Safe()) == len(have)+1 && x.Pending() == 0, "the drive %d has %d files", i, len(x.Safe()))
			}
		}
	}
}

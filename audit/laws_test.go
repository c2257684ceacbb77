package audit_test

import (
	"bytes"
	"fmt"
	"math/rand"
	"slices"
	"strings"
	"testing"

	"cairn/api"
	"cairn/audit"
	"cairn/drive"
	"cairn/drop"
	"cairn/get"
	"cairn/heal"
	"cairn/opening"
	"cairn/put"
	"cairn/wound"
)

// the keys that stand on the drives of some world, each on some of them.
var someKeys = []string{"a", "a/b", "a/c", "b", "\xff"}

// comeBack is a drive that did not answer, and now holds whatever it holds of the key "a".
func comeBack(r *rand.Rand, shape api.Shape, place int) *spy {
	newest := stored(api.Gen{Epoch: api.MaxEpoch, Count: api.MaxCount}, "new", asItIs)
	oldest := stored(api.Gen{Epoch: 1, Count: 1}, "", asItIs)
	return pick(r, nothing, oldOne, oldOne, longOne, youngOne, youngOne, futureOne, newest, newest, oldest, spoiltOne, wornOne)(shape, place)
}

// P25.4: what is said to be sure is so, whatever the silent places come back with: all with one and the same, or each with its own.
func TestSureIsSure(t *testing.T) {
	r := source(254)
	kinds := map[int]int{}
	for run := range 6000 {
		shape := pick(r, append(shapes(), api.Shape{K: 3, M: 3, Block: 2}, api.Shape{K: 4, M: 4, Block: 2}, api.Shape{K: 5, M: 3, Block: 1})...)
		n := shape.K + shape.M
		l := make([]exhibit, n)
		main := pick(r, nothing, oldOne, youngOne)
		for i := range l {
			l[i] = pick(r, main, main, main, nothing, oldOne, youngOne, longOne, spoiltOne, silentOne, nobody)
		}
		s := gallery(shape, l)
		f, err := s.one(t)
		wantNumber(t, "Key", err, api.OK)
		kinds[f.Kind]++
		same := run%2 == 0
		for range 5 {
			seed := r.Int63()
			back := slices.Clone(s.set.Disks)
			for i, d := range s.disks {
				if d == nil || d.(*spy).list != api.OK {
					back[i] = comeBack(source(seed), shape, i)
					if !same {
						seed = r.Int63()
					}
				}
			}
			set := *s.set
			set.Disks = back
			v, _, err := get.Look(&set, nil, "a")
			wantNumber(t, "Look", err, api.OK)
			switch f.Kind {
			case api.IsSure:
				fatalUnless(t, v.Kind == api.IsValue && v.Gen == f.Gen, "%v: %+v, and then Look tells %v", shape, f, v)
			case api.IsNone:
				fatalUnless(t, v.Kind == api.IsAbsent, "%v: %+v, and then Look tells %v", shape, f, v)
			}
		}
	}
	wantMet(t, kinds, api.IsSure, api.IsMaybe, api.IsNone)
}

// P25.4 of All: likewise, of each of several keys, on wounds that were offline or taken out.
func TestSureIsSureOfAll(t *testing.T) {
	r := source(255)
	kinds := map[int]int{}
	for range 1500 {
		shape := pick(r, append(shapes(), api.Shape{K: 3, M: 3, Block: 2})...)
		set, w := opened(t, shape)
		for range 12 {
			if r.Intn(4) == 0 {
				w[r.Intn(len(w))].Offline(r.Intn(2) == 0)
			}
			key := pick(r, someKeys...)
			put.Put(set, nil, key, []byte("of "+key))
			if r.Intn(2) == 0 {
				drop.Delete(set, nil, pick(r, someKeys...))
			}
		}
		for _, key := range someKeys[:r.Intn(len(someKeys))] { // some are lost at most places
			for _, i := range r.Perm(len(w))[:r.Intn(len(w))] {
				w[i].Drive.Remove(nameOf(key))
			}
		}
		for _, i := range r.Perm(len(w))[:r.Intn(shape.M+1)] {
			w[i].Offline(true)
		}
		all, err := audit.All(set, nil, "")
		if err == api.ErrQuorum {
			continue
		}
		wantNumber(t, "All", err, api.OK)
		for _, f := range all {
			one, err := audit.Key(set, nil, f.Key)
			fatalUnless(t, one == f && err == api.OK, "Key = %v, %d, not %v", one, err, f)
		}
		for _, x := range w {
			x.Offline(false)
		}
		for _, f := range all {
			kinds[f.Kind]++
			v, _, err := get.Look(set, nil, f.Key)
			wantNumber(t, "Look", err, api.OK)
			fatalUnless(t, f.Kind != api.IsSure || v.Kind == api.IsValue && v.Gen == f.Gen, "%+v, and then Look tells %v", f, v)
			fatalUnless(t, f.Kind != api.IsNone || v.Kind == api.IsAbsent, "%+v, and then Look tells %v", f, v)
		}
	}
	wantMet(t, kinds, api.IsSure, api.IsMaybe, api.IsNone)
}

// wantCounts wants of a finding what P25.5 says of its numbers.
func wantCounts(t *testing.T, shape api.Shape, f api.Finding) {
	t.Helper()
	fatalUnless(t, min(f.Whole, f.Stale, f.Spoilt, f.Silent) >= 0 && f.Whole+f.Stale+f.Spoilt+f.Silent <= shape.K+shape.M, "%v: %+v", shape, f)
	fatalUnless(t, f.Kind != api.IsSure || f.Whole >= shape.K && f.Silent < shape.K, "%v: %+v", shape, f)
	fatalUnless(t, f.Kind != api.IsNone || f.Whole == 0 && f.Gen == api.Gen{} && f.Silent < shape.K, "%v: %+v", shape, f)
	fatalUnless(t, (f.Whole == 0) == (f.Gen == api.Gen{}) && (f.Whole == 0 || f.Whole >= shape.K), "%v: %+v", shape, f)
	fatalUnless(t, from(1, f.Kind, 3), "%v: %+v", shape, f)
}

// fails makes a place that shows the key fail, in one way or another.
func fails(r *rand.Rand, set *api.Set, place int) {
	d := set.Disks[place].(*spy)
	switch r.Intn(5) {
	case 0:
		set.Disks[place] = nil
	case 1:
		d.fail("a", api.ErrIO)
	case 2:
		delete(d.files, "o61")
	case 3:
		d.files["o61"] = d.files["o61"][1:]
	case 4:
		set.Disks[place] = stored(api.Gen{Epoch: 1, Count: 1}, "older", asItIs)(set.Shape, place)
	}
}

// P25.5: the counts; and of what is sure Get answers the object, as long as no more than Whole less K of the places that show it fail, whatever else is done but that a place shows a newer one.
func TestHowManyMayFail(t *testing.T) {
	r := source(256)
	sure := 0
	for range 6000 {
		shape := pick(r, append(shapes(), api.Shape{K: 3, M: 3, Block: 2}, api.Shape{K: 4, M: 4, Block: 2})...)
		l := make([]exhibit, shape.K+shape.M)
		for i := range l {
			l[i] = pick(r, youngOne, youngOne, youngOne, youngOne, nothing, oldOne, futureOne, spoiltOne, silentOne, nobody)
		}
		s := gallery(shape, l)
		f, err := s.one(t)
		wantNumber(t, "Key", err, api.OK)
		wantCounts(t, shape, f)
		v, _, _ := get.Look(s.set, nil, "a")
		if f.Kind != api.IsSure || f.Gen != h {
			continue
		}
		sure++
		fatalUnless(t, len(v.Places) == f.Whole && v.Gen == f.Gen, "%v: %+v", v, f)
		for i := range s.set.Disks { // the others do what they will, but show a newer one
			if !slices.Contains(v.Places, i) && r.Intn(2) == 0 {
				s.set.Disks[i] = pick(r, nothing, oldOne, youngOne, longOne, spoiltOne, silentOne)(shape, i)
			}
		}
		may := f.Whole - shape.K
		for _, at := range r.Perm(f.Whole)[:pick(r, may, may, r.Intn(may+1))] {
			fails(r, s.set, v.Places[at])
		}
		data, gen, err := get.Get(s.set, nil, "a")
		fatalUnless(t, string(data) == "young" && gen == f.Gen && err == api.OK, "%v, %+v: Get = %q, %v, %d", shape, f, data, gen, err)
	}
	fatalUnless(t, sure > 1000, "%d", sure)
}

// P25.5: the edge of Silent: with K of them nothing is sure, in each shape that can have so many.
func TestAtKSilentNothingIsSure(t *testing.T) {
	for k := 1; k < 8; k++ {
		for m := 1; m <= k; m++ {
			shape := api.Shape{K: k, M: m, Block: 1}
			for hush := range k + m + 1 {
				for _, other := range []exhibit{oldOne, nothing} {
					l := slices.Concat(slices.Repeat([]exhibit{other}, k+m-hush), slices.Repeat([]exhibit{silentOne}, hush))
					f, err := checkKey(t, func() scene { return gallery(shape, l) })
					wantNumber(t, "Key", err, api.OK)
					wantCounts(t, shape, f)
					fatalUnless(t, (f.Kind != api.IsMaybe) == (hush <= m && hush < k), "%v, %d silent: %+v", shape, hush, f)
				}
			}
		}
	}
}

// P25.6: behind a Heal that answered OK all findings are sure, with all places whole; and so many as Heal counted keys.
func TestBehindAHeal(t *testing.T) {
	r := source(257)
	well, worstOfAll := 0, map[int]int{}
	for run := range 600 {
		shape := shapes()[run%len(shapes())]
		set, w := opened(t, shape)
		for range 20 {
			switch r.Intn(6) {
			case 0, 1, 2:
				put.Put(set, nil, pick(r, someKeys...), make([]byte, r.Intn(40)))
			case 3:
				drop.Delete(set, nil, pick(r, someKeys...))
			default:
				misfortune(r, w[r.Intn(len(w))])
			}
		}
		for _, x := range w {
			if r.Intn(10) > 0 {
				x.Offline(false)
			}
			x.Arm(nil)
		}
		before, err := audit.All(set, nil, "")
		fatalUnless(t, err == api.OK || err == api.ErrQuorum, "All = %d", err)
		bad, _ := audit.Worst(before)
		worstOfAll[bad.Kind]++
		did, err := heal.Heal(set, nil)
		if err != api.OK {
			fatalUnless(t, err == api.ErrDegraded, "Heal = %d", err)
			continue
		}
		well++
		all, err := audit.All(set, nil, "")
		fatalUnless(t, err == api.OK && len(all) == did.Keys, "All = %v, %d; Heal tells %v", all, err, did)
		for _, f := range all {
			_, gen, err := get.Get(set, nil, f.Key)
			wantNumber(t, "Get", err, api.OK)
			fatalUnless(t, f == api.Finding{Key: f.Key, Kind: api.IsSure, Gen: gen, Whole: len(w)}, "%+v, of %d places", f, len(w))
			one, err := audit.Key(set, nil, f.Key)
			fatalUnless(t, one == f && err == api.OK, "Key = %v, %d, not %v", one, err, f)
		}
		// What was sure ahead of it stands, of the same generation; what was none is gone.
		for _, f := range before {
			at := slices.Index(keysOf(all), f.Key)
			fatalUnless(t, f.Kind != api.IsSure || at >= 0 && all[at].Gen == f.Gen, "%+v is gone", f)
			fatalUnless(t, f.Kind != api.IsNone || at < 0, "%+v has come", f)
		}
	}
	fatalUnless(t, well > 100 && len(worstOfAll) > 2, "%d, %v", well, worstOfAll)
}

// misfortune is something that happens to a drive that is at fault.
func misfortune(r *rand.Rand, w *wound.Wound) {
	name := nameOf(pick(r, someKeys...))
	switch r.Intn(12) {
	case 0:
		w.Offline(true)
	case 1:
		w.Arm([]api.Fault{{At: r.Intn(9), Kind: api.FaultIO}, {At: r.Intn(9), Kind: api.FaultFull}})
	case 2:
		w.Flip(name, r.Intn(50), []byte{1 << r.Intn(8)})
	case 3:
		w.Cut(name, r.Intn(30))
	case 4:
		w.Wipe()
	case 5, 6, 7:
		w.Offline(false)
	}
}

// someWound is a drive on which this and that stands and has happened, and may happen still.
func someWound(r *rand.Rand, shape api.Shape, place int) patient {
	files := []api.File{{Name: "l", Data: []byte("label")}, {Name: "o62", Data: make([]byte, r.Intn(50))}, {Name: "t"}, {Name: "zzz"}}
	for _, key := range someKeys {
		s := shelf(shape, place, key)
		if key == "a" {
			s = pick(r, oldOne, oldOne, oldOne, oldOne, youngOne, futureOne)(shape, place)
		}
		if r.Intn(6) > 0 {
			files = slices.DeleteFunc(files, func(f api.File) bool { return f.Name == nameOf(key) })
			files = append(files, api.File{Name: nameOf(key), Data: s.files[nameOf(key)]})
		}
	}
	d := drive.Load(20000, files)
	switch r.Intn(4) { // changes that are not safe
	case 0:
		d.Create("o63")
		d.Append("o63", make([]byte, r.Intn(20)))
		d.Rename("o62", "t")
		d.Remove("zzz")
	case 1:
		d.Create("o61")
		d.Append("o61", oldOne(shape, place).files["o61"])
	}
	w := wound.New(d)
	switch r.Intn(16) {
	case 0:
		w.Offline(true)
	case 1, 2:
		w.Arm([]api.Fault{{At: r.Intn(6), Kind: api.FaultIO}, {At: r.Intn(6), Kind: api.FaultFull}})
	case 3:
		w.Fuse(r.Intn(3), r.Intn(6), r.Intn(60))
	case 4:
		w.Cut(nameOf(pick(r, someKeys...)), r.Intn(60))
	case 5:
		w.Flip(nameOf(pick(r, someKeys...)), r.Intn(60), []byte{1, 2, 3})
	}
	return patient{w}
}

// someWorld is a scene of wounds to which this and that happens.
func someWorld(seed int64) scene {
	r := source(seed)
	shape := pick(r, append(shapes(), api.Shape{K: 5, M: 4, Block: 16})...)
	l := make([]subject, shape.K+shape.M)
	for i := range l {
		if r.Intn(12) > 0 {
			l[i] = someWound(r, shape, i)
		}
	}
	s := sceneOf(shape, l)
	s.prefix = pick(r, "", "", "", "a", "a/", "b", "x")
	s.key = pick(r, someKeys...)
	return s
}

// Wounds with plans, offline, with fuses, and on which this and that stands: Key and All do to them what the words do, and answer the same.
func TestSomeWounds(t *testing.T) {
	met := map[api.Errno]int{}
	for seed := range int64(3000) {
		_, err := checkAll(t, func() scene { return someWorld(seed) })
		met[err]++
		f, err := checkKey(t, func() scene { return someWorld(seed) })
		met[err]++
		if err == api.OK {
			wantCounts(t, someWorld(seed).set.Shape, f)
		}
	}
	wantMet(t, met, api.OK, api.ErrQuorum, api.ErrDown)
}

// calm is a scene of drives to which nothing happens: they answer each call as they did before, some of them never.
func calm(seed int64) scene {
	s := someWorld(seed)
	for _, d := range s.disks {
		if d != nil {
			d.(patient).Arm(nil)
			d.(patient).Fuse(-1, 0, 0)
		}
	}
	return s
}

// While nothing is done to the drives, All tells of each key what Key does, has each key that any drive tells, and the findings of a prefix are a part of the whole.
func TestAllIsKeyOfEach(t *testing.T) {
	met := map[string]int{}
	for seed := range int64(2000) {
		s := calm(seed)
		whole, err := audit.All(s.set, nil, "")
		for _, f := range whole {
			one, err := audit.Key(s.set, nil, f.Key)
			fatalUnless(t, one == f && err == api.OK, "Key = %v, %d, not %v", one, err, f)
			wantCounts(t, s.set.Shape, f)
		}
		for _, prefix := range []string{"", "a", "a/", "b", "c", "\xff", "\x00", "o61", strings.Repeat("a", 256)} {
			l, no := audit.All(s.set, nil, prefix)
			want := slices.DeleteFunc(slices.Clone(whole), func(f api.Finding) bool { return !strings.HasPrefix(f.Key, prefix) })
			fatalUnless(t, no == err && slices.Equal(l, want), "All %q = %v, %d; the whole %v, %d", prefix, l, no, whole, err)
			met[fmt.Sprint(int(no), " ", min(2, len(l)))]++
		}
	}
	for _, what := range []string{"0 0", "0 1", "0 2", "170 0"} {
		fatalUnless(t, met[what] > 100, "%s: %v", what, met)
	}
}

// W1 to W3 of what layers 18 to 25 do: with M drives or fewer that ever were at fault, and across losses of power, the keys that are sure are those that Get tells, and what was acknowledged is never none.
func TestKeepsToWhatWasAcknowledged(t *testing.T) {
	r := source(258)
	met := map[string]int{}
	for run := range 300 {
		shape := shapes()[run%len(shapes())]
		set, w := opened(t, shape)
		faulty := r.Perm(len(w))[:r.Intn(shape.M+1)]
		have := map[string][]byte{} // what was acknowledged, and since then no Delete was tried of
		for range 40 {
			for _, i := range faulty {
				misfortune(r, w[i])
			}
			if r.Intn(5) == 0 {
				w[r.Intn(len(w))].Fuse(r.Intn(4), r.Intn(6), r.Intn(60))
			}
			key, data := pick(r, someKeys...), make([]byte, r.Intn(30))
			if r.Intn(4) > 0 {
				if put.Put(set, nil, key, data) == api.OK {
					have[key] = data
				}
			} else {
				drop.Delete(set, nil, key)
				delete(have, key)
			}
			all, err := audit.All(set, nil, "")
			if err == api.ErrDown {
				met["down"]++
				set = powerIsBack(t, r, w)
				continue
			}
			wantNumber(t, "All", err, api.OK)
			for key, data := range have {
				at := slices.Index(keysOf(all), key)
				fatalUnless(t, at >= 0 && all[at].Whole >= shape.K && all[at].Kind != api.IsNone, "All = %v, and %q was acknowledged", all, key)
				got, gen, err := get.Get(set, nil, key)
				if err == api.ErrDown {
					break
				}
				fatalUnless(t, err == api.OK && gen == all[at].Gen && bytes.Equal(got, data), "Get = %v, %v, %d, not %v of %v", got, gen, err, data, all[at])
				met["has"]++
			}
		}
	}
	fatalUnless(t, met["down"] > 50 && met["has"] > 1000, "%v", met)
}

// powerIsBack is what comes behind a loss of power: whatever the fates keep, the store is opened anew.
func powerIsBack(t *testing.T, r *rand.Rand, w []*wound.Wound) *api.Set {
	t.Helper()
	var disks []api.Disk
	for _, x := range w {
		f := api.Fate{Dirs: make([]bool, r.Intn(10)), Cuts: make([]int, r.Intn(8))}
		for i := range f.Dirs {
			f.Dirs[i] = r.Intn(2) == 0
		}
		for i := range f.Cuts {
			f.Cuts[i] = pick(r, 0, 1, 30, 99, -1)
		}
		x.Crash(f)
		x.Fuse(-1, 0, 0)
		x.Power(true)
		disks = append(disks, x)
	}
	set, err := opening.Open(disks)
	wantNumber(t, "Open", err, api.OK)
	return set
}

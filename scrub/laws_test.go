package scrub_test

import (
	"math/rand"
	"slices"
	"strings"
	"testing"

	"cairn/api"
	"cairn/bay"
	"cairn/drive"
	"cairn/drop"
	"cairn/frame"
	"cairn/get"
	"cairn/heal"
	"cairn/put"
	"cairn/scrub"
	"cairn/wound"
)

// someKeys rise.
var someKeys = []string{"a", "a/b", "b", strings.Repeat("k", 255), "\xff"}

// moreShapes are such as bear more failures too.
func moreShapes() []api.Shape {
	return append(shapes(), api.Shape{K: 3, M: 3, Block: 2}, api.Shape{K: 4, M: 4, Block: 3}, api.Shape{K: 6, M: 5, Block: 7}, api.Shape{K: 7, M: 2, Block: 1})
}

// someObjects are keys and bytes by turns, the keys rising; the bytes may be none.
func someObjects(r *rand.Rand, shape api.Shape, least int) (objects []string) {
	for _, key := range someKeys {
		if r.Intn(5) > 0 {
			data := make([]byte, least+pick(r, 0, 1, r.Intn(9), r.Intn(4*shape.K*shape.Block)))
			r.Read(data)
			objects = append(objects, key, string(data))
		}
	}
	return objects
}

// walked is all that a walk finds, from where it is to its end, in steps as they come.
func walked(t *testing.T, s *scrub.Scrub, budget func() int) (all []api.Find) {
	t.Helper()
	for range 100000 {
		finds, end, err := s.Step(nil, budget())
		wantNumber(t, "Step", err, api.OK)
		all = append(all, finds...)
		if end {
			return all
		}
	}
	t.Fatal("the walk has no end")
	return nil
}

// turn turns some bits of a file, all within 32 that follow one another.
func turn(r *rand.Rand, w patient, name string) {
	b, _ := w.Drive.Read(name)
	first, bits := r.Intn(8*len(b)), uint64(1)|uint64(r.Uint32()&pick[uint32](r, 0, 7, 0xffff, 0xffffffff))
	bits <<= first % 8
	var pattern []byte
	for ; bits > 0; bits >>= 8 {
		pattern = append(pattern, byte(bits))
	}
	w.Flip(name, first/8, pattern)
}

// P29.5: of drives that were wiped, taken out or are offline, and of files that were cut short or turned, just that is found, and nothing else.
func TestWhatIsFoundIsWhatWasDone(t *testing.T) {
	r := source(295)
	met := map[int]int{}
	for range 700 {
		shape := pick(r, moreShapes()...)
		objects := someObjects(r, shape, 0)
		set, w := laid(t, shape, objects...)
		order := r.Perm(len(w))
		whole := r.Intn(shape.M + 1) // so many drives are harmed as a whole
		done := map[int]int{}
		for _, i := range order[:whole] {
			done[i] = pick(r, api.FoundMissing, api.FoundSilent)
			switch {
			case done[i] == api.FoundMissing:
				w[i].Wipe()
			case r.Intn(2) == 0:
				set.Disks[i] = nil
			default:
				w[i].Offline(true)
			}
		}
		var want []api.Find
		for at := 0; at < len(objects); at += 2 {
			key, count := objects[at], at/2+1
			here := order[whole:][:pick(r, shape.M-whole, r.Intn(shape.M-whole+1))]
			for place, x := range w {
				if done[place] > 0 {
					want = append(want, find(key, place, done[place], count))
				}
				if slices.Contains(here, place) {
					if r.Intn(2) == 0 {
						turn(r, x, nameOf(key))
					} else {
						b, _ := x.Drive.Read(nameOf(key))
						x.Cut(nameOf(key), pick(r, r.Intn(len(b)), 0, len(b)-1))
					}
					want = append(want, find(key, place, api.FoundSpoilt, count))
				}
			}
			r.Shuffle(len(order)-whole, func(i, j int) { order[whole+i], order[whole+j] = order[whole+j], order[whole+i] })
		}
		got := walked(t, scrub.New(set), func() int { return 1 + r.Intn(6) })
		fatalUnless(t, slices.Equal(got, want), "%v: %v is found, not %v", shape, got, want)
		for _, f := range want {
			met[f.Kind]++
		}
	}
	for _, kind := range []int{api.FoundMissing, api.FoundSilent, api.FoundSpoilt} {
		fatalUnless(t, met[kind] > 300 && len(met) == 3, "the kind %d: %v", kind, met)
	}
}

// othered puts the shard of an object, with other bytes in some of its blocks, in the place of the right one.
func othered(t *testing.T, r *rand.Rand, d api.Disk, s api.Shard) {
	t.Helper()
	for i, j := range r.Perm(len(s.Blocks)) {
		if i > 0 && r.Intn(2) == 0 {
			continue
		}
		for k, c := range r.Perm(len(s.Blocks[j])) {
			if k == 0 || r.Intn(3) == 0 {
				s.Blocks[j][c] ^= byte(1 + r.Intn(255))
			}
		}
	}
	wantNumber(t, "Store", bay.Store(d, s), api.OK)
}

// P29.6: shards with other bytes under right sums are found at just their places, and those of wiped drives beside them, as long as twice the former and the latter are no more than M.
func TestWrongWithoutASum(t *testing.T) {
	r := source(296)
	wrong, missing, most := 0, 0, 0
	for range 900 {
		shape := pick(r, moreShapes()...)
		objects := someObjects(r, shape, 1)
		set, w := laid(t, shape, objects...)
		order := r.Perm(len(w))
		wiped := r.Intn(shape.M + 1)
		for _, i := range order[:wiped] {
			w[i].Wipe()
		}
		var want []api.Find
		for at := 0; at < len(objects); at += 2 {
			key, count := objects[at], at/2+1
			radius := (shape.M - wiped) / 2
			turned := pick(r, radius, r.Intn(radius+1))
			for place := range w {
				which := slices.Index(order, place)
				switch {
				case which < wiped:
					want = append(want, find(key, place, api.FoundMissing, count))
					missing++
				case which < wiped+turned:
					othered(t, r, w[place], shardsOf(shape, key, objects[at+1], gen(count))[place])
					want = append(want, find(key, place, api.FoundWrong, count))
					wrong++
				}
			}
			most = max(most, turned)
		}
		got := walked(t, scrub.New(set), func() int { return 1 + r.Intn(6) })
		fatalUnless(t, slices.Equal(got, want), "%v: %v is found, not %v", shape, got, want)
	}
	fatalUnless(t, wrong > 500 && missing > 500 && most > 1, "%d, %d, %d", wrong, missing, most)
}

// P29.6, one shard more: where too many are wrong it is told that it can't be told, or others fit by chance; nothing is found where all rows are those of one other object.
func TestBeyondTheRadius(t *testing.T) {
	for _, shape := range []api.Shape{{K: 1, M: 1, Block: 1}, {K: 2, M: 1, Block: 4}, {K: 3, M: 1, Block: 2}} {
		for place := range shape.K + 1 {
			set, w := laid(t, shape, "a", "hello")
			othered(t, source(1), w[place], shardsOf(shape, "a", "hello", gen(1))[place])
			wantStep(t, scrub.New(set), 1, true, find("a", -1, api.FoundUnknown, 1)) // one is wrong, and any may be
		}
	}
	shape := api.Shape{K: 2, M: 2, Block: 4}
	set, w := laid(t, shape, "a", "hello")
	for place, s := range shardsOf(shape, "a", "olleh", gen(1)) {
		wantNumber(t, "Store", bay.Store(w[place], s), api.OK)
		if place == 3 {
			wantStep(t, scrub.New(set), 1, true) // they fit one another
		}
	}
}

// harmed is a store with objects to which this and that was done; some changes of names are not safe.
func harmed(t *testing.T, r *rand.Rand, shape api.Shape) (*api.Set, []patient, int) {
	t.Helper()
	objects := someObjects(r, shape, 1)
	set, w := laid(t, shape, objects...)
	silent := 0
	for i, x := range w {
		for at := 0; at < len(objects); at += 2 {
			name := nameOf(objects[at])
			s := shardsOf(shape, objects[at], objects[at+1], gen(at/2+1))[i]
			switch r.Intn(12) {
			case 0:
				x.Drive.Remove(name)
			case 1:
				turn(r, x, name)
			case 2:
				othered(t, r, x, s)
			case 3:
				s.Gen.Count = 50 + r.Intn(3)
				bay.Store(x, s)
			case 4:
				x.Cut(name, r.Intn(20))
			}
		}
		switch r.Intn(12) {
		case 0:
			x.Wipe()
		case 1:
			if silent < shape.M {
				x.Offline(true)
				silent++
			}
		case 2:
			x.Drive.Create("t")
			x.Drive.Append("t", []byte("loose"))
		case 3:
			x.Drive.Create(nameOf("loose"))
			x.Drive.Append(nameOf("loose"), formOf(shardsOf(shape, "loose", "bytes", gen(60))[i]))
		}
	}
	if silent < shape.M && r.Intn(4) == 0 {
		set.Disks[r.Intn(len(w))] = nil
	}
	return set, w, len(objects) / 2
}

// told are the keys that the drives of a set tell.
func told(set *api.Set) []string {
	var keys []string
	for _, d := range set.Disks {
		l, _ := bay.Keys(d)
		keys = append(keys, l...)
	}
	slices.Sort(keys)
	return slices.Compact(keys)
}

// P29.7: however a walk is cut into steps, it finds the same, looks at each key once, and changes nothing on any drive; and the walk behind its end finds the same again.
func TestHoweverItIsCut(t *testing.T) {
	r := source(297)
	met := map[int]int{}
	for range 300 {
		set, w, _ := harmed(t, r, pick(r, moreShapes()...))
		keys := told(set)
		charts := func() (l []string) {
			for _, x := range w {
				l = append(l, x.chart())
			}
			return l
		}
		calls := func() (l []int) {
			for _, x := range w {
				l = append(l, x.Calls())
			}
			return l
		}
		before := charts()
		want := walked(t, scrub.New(set), func() int { return 1000 })
		for _, f := range want {
			met[f.Kind]++
		}
		cut := scrub.New(set)
		for _, budget := range []int{1, 2, 3, 1 + r.Intn(7), -1} {
			asked, steps := calls(), 0
			got := walked(t, cut, func() int {
				steps++
				if budget < 0 {
					return 1 + r.Intn(4)
				}
				return budget
			})
			fatalUnless(t, slices.Equal(got, want), "in steps of %d %v is found, not %v", budget, got, want)
			fatalUnless(t, cut.Seen() == len(keys), "%d keys were seen, of %d", cut.Seen(), len(keys))
			if len(keys) > 0 {
				fatalUnless(t, cut.Place() == keys[len(keys)-1], "the walk ends at %q", cut.Place())
			}
			for i, x := range w { // a List a step, and a Read a key
				is := x.Calls() - asked[i]
				fatalUnless(t, is == steps+len(keys) || is == 0 && (set.Disks[i] == nil || silentOne(x)), "the drive %d was called %d times in %d steps of %d keys", i, is, steps, len(keys))
			}
		}
		fatalUnless(t, slices.Equal(charts(), before), "the drives came to\n%s\nnot\n%s", charts(), before)
	}
	for kind := 1; kind <= 6; kind++ {
		fatalUnless(t, met[kind] > 20 && len(met) == 6, "the kind %d: %v", kind, met)
	}
}

// silentOne tells whether a wound is offline.
func silentOne(x patient) bool {
	_, err := x.List()
	return err == api.ErrOffline
}

// P29.7: behind a Heal that answered OK a walk finds nothing, and sees as many keys as Heal counted.
func TestBehindAHeal(t *testing.T) {
	r := source(298)
	well, found := 0, 0
	for run := range 400 {
		shape := shapes()[run%len(shapes())]
		set, w := opened(t, shape, 1<<20)
		for range 20 {
			switch r.Intn(6) {
			case 0, 1, 2:
				put.Put(set, nil, pick(r, someKeys...), make([]byte, r.Intn(40)))
			case 3:
				drop.Delete(set, nil, pick(r, someKeys...))
			default:
				misfortune(r, w[r.Intn(len(w))])
			}
		}
		for _, x := range w {
			if r.Intn(10) > 0 {
				x.Offline(false)
			}
			x.Arm(nil)
		}
		before, _, _ := scrub.New(set).Step(nil, 1000)
		healed, err := heal.Heal(set, nil)
		if err != api.OK {
			continue
		}
		well++
		found += len(before)
		s := scrub.New(set)
		got := walked(t, s, func() int { return 1 + r.Intn(3) })
		fatalUnless(t, len(got) == 0 && s.Seen() == healed.Keys, "behind a Heal %v is found, of %d keys, and it counted %d", got, s.Seen(), healed.Keys)
	}
	fatalUnless(t, well > 100 && found > 200, "%d Heals went well, %d finds", well, found)
}

// P29.7: a Heal asks for sums alone: what is wrong under a right one is found behind it still, in whatever is written anew out of it too.
func TestAHealLeavesWhatIsWrong(t *testing.T) {
	shape := api.Shape{K: 2, M: 2, Block: 4}
	for place := range 4 {
		set, w := opened(t, shape, 1<<16)
		wantNumber(t, "Put", put.Put(set, nil, "a", []byte("hello")), api.OK)
		v, seen, err := get.Look(set, nil, "a")
		wantNumber(t, "Look", err, api.OK)
		s := seen[place].Shard
		s.Blocks[0][0] ^= 1
		wantNumber(t, "Store", bay.Store(w[place], s), api.OK)
		wrong := api.Find{Key: "a", Place: place, Kind: api.FoundWrong, Gen: v.Gen}
		wantStep(t, scrub.New(set), 1, true, wrong)
		_, err = heal.Heal(set, nil)
		wantNumber(t, "Heal", err, api.OK)
		wantStep(t, scrub.New(set), 1, true, wrong)
	}
}

// misfortune is something that happens to a drive.
func misfortune(r *rand.Rand, w patient) {
	name := nameOf(pick(r, someKeys...))
	switch r.Intn(12) {
	case 0:
		w.Offline(true)
	case 1:
		w.Arm([]api.Fault{{At: r.Intn(9), Kind: api.FaultIO}, {At: r.Intn(9), Kind: api.FaultFull}})
	case 2:
		w.Flip(name, r.Intn(50), []byte{1 << r.Intn(8)})
	case 3:
		w.Cut(name, r.Intn(30))
	case 4:
		w.Wipe()
	case 5, 6, 7:
		w.Offline(false)
	}
}

// shardOf is the shard of a small object of that key.
func shardOf(shape api.Shape, key string, count, place int) api.Shard {
	return shardsOf(shape, key, "of "+key[:1], gen(count))[place]
}

// someHarm is something that happens to drives that are alike, of a place in stores of that shape.
func someHarm(r *rand.Rand, shape api.Shape, place int, l ...patient) {
	seed := r.Int63()
	for _, w := range l {
		r := source(seed)
		key := pick(r, someKeys...)
		switch r.Intn(12) {
		case 0, 1, 2:
			misfortune(r, w)
		case 3:
			w.Fuse(r.Intn(9), r.Intn(4), r.Intn(40))
		case 4, 5, 6:
			bay.Store(w, shardOf(shape, key, 1+r.Intn(2), place))
		case 7: // a shard that does not fit the others
			s := shardOf(shape, key, 1, place)
			s.Blocks[0][0] ^= byte(1 + r.Intn(255))
			bay.Store(w, s)
		case 8:
			bay.Drop(w, key)
		}
	}
}

// P29.3 of drives that are refused, lose their power, hold whatever, come and go: all that a walk answers and asks is as in the chapter's words.
func TestRandomWalks(t *testing.T) {
	met, kinds := map[api.Errno]int{}, map[int]int{}
	for seed := range int64(160) {
		r := source(seed)
		shape := pick(r, append(shapes(), api.Shape{K: 3, M: 3, Block: 2})...)
		p := paired(shape, func() []patient {
			_, w := laid(t, shape)
			for place, x := range w {
				for _, key := range someKeys {
					bay.Store(x, shardOf(shape, key, 1, place))
				}
			}
			return w
		})
		for range 40 {
			place := r.Intn(len(p.mine))
			someHarm(r, shape, place, p.mine[place], p.theirs[place])
			switch r.Intn(12) {
			case 0:
				p.each(func(set *api.Set, l []patient) { set.Disks[place] = nil })
			case 1, 2, 3:
				p.each(func(set *api.Set, l []patient) { set.Disks[place] = l[place] })
			case 4, 5:
				fates := r.Int63()
				p.each(func(_ *api.Set, l []patient) {
					fate := source(fates)
					for _, w := range l {
						if !w.On() {
							w.Crash(someFate(fate))
							w.Power(true)
						}
					}
				})
			}
			finds, _, err := p.step(t, nil, pick(r, 1, 1, 2, 3, 100))
			met[err]++
			for _, f := range finds {
				kinds[f.Kind]++
			}
		}
	}
	for _, number := range []api.Errno{api.OK, api.ErrDown, api.ErrQuorum} {
		fatalUnless(t, met[number] > 100 && len(met) == 3, "the number %d: %v", number, met)
	}
	for kind := 1; kind <= 6; kind++ {
		fatalUnless(t, kinds[kind] > 50 && len(kinds) == 6, "the kind %d: %v", kind, kinds)
	}
}

// someFate is what a loss of power keeps.
func someFate(r *rand.Rand) api.Fate {
	f := api.Fate{Dirs: make([]bool, r.Intn(10)), Cuts: make([]int, r.Intn(8))}
	for i := range f.Dirs {
		f.Dirs[i] = r.Intn(2) == 0
	}
	for i := range f.Cuts {
		f.Cuts[i] = pick(r, 0, 1, 30, 99, -1)
	}
	return f
}

// A store that is as the page's premise asks, but for its drives' being used by hand: whatever loose files stand there, a walk sees them as they are.
func TestLooseFiles(t *testing.T) {
	set, w := laid(t, small(), "a", "hello")
	for i, x := range w {
		form := formOf(shardsOf(small(), "b", "loose", gen(2))[i])
		x.Drive.Create(nameOf("b"))
		x.Drive.Append(nameOf("b"), form)
		_, err := frame.Parse(form)
		wantNumber(t, "Parse", err, api.OK)
	}
	wantStep(t, scrub.New(set), 9, true)
	for _, x := range w {
		x.Crash(api.Fate{})
	}
	wantStep(t, scrub.New(set), 9, true)
	for i := range w {
		set.Disks[i] = wound.New(drive.New(100))
	}
	wantStep(t, scrub.New(set), 9, true)
}

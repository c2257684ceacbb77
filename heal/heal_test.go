package heal_test

import (
	"fmt"
	"math"
	"slices"
	"strings"
	"testing"
	"time"

	"cairn/api"
	"cairn/bay"
	"cairn/drive"
	"cairn/fan"
	"cairn/get"
	"cairn/heal"
	"cairn/label"
	"cairn/opening"
	"cairn/put"
	"cairn/wound"
)

// numbers are answers of a drive; the first is OK.
var numbers = []api.Errno{0, 110, 120, 121, 122, 111, 112, 150, 91, 90, 70, 81, 1, 2, 3, 42, 100, 170, 181, 200, 230, 160, 7, -1, -7, math.MaxInt, math.MinInt}

// opened is a store that was formatted and opened, with its drives at their places.
func opened(t *testing.T, shape api.Shape) (scene, []*wound.Wound) {
	t.Helper()
	var w []*wound.Wound
	var l []subject
	for range shape.K + shape.M {
		w = append(w, wound.New(drive.New(1<<20)))
		l = append(l, patient{w[len(w)-1]})
	}
	wantNumber(t, "Format", opening.Format(disksOf(l), shape, theStore()), api.OK)
	set, err := opening.Open(disksOf(l))
	wantNumber(t, "Open", err, api.OK)
	return scene{set: set, disks: l}, w
}

// example is the store of the chapter's examples.
func example(t *testing.T) (scene, []*wound.Wound) {
	t.Helper()
	s, w := opened(t, small())
	wantNumber(t, "Put", put.Put(s.set, nil, "a", []byte("hello")), api.OK)
	return s, w
}

func wantGet(t *testing.T, set *api.Set, key, want string) {
	t.Helper()
	b, _, err := get.Get(set, nil, key)
	fatalUnless(t, string(b) == want && err == api.OK, "Get %q = %q, %d, not %q", key, b, err, want)
}

func wantNames(t *testing.T, w *wound.Wound, want ...string) {
	t.Helper()
	l, err := w.List()
	fatalUnless(t, slices.Equal(l, want) && err == api.OK, "List = %q, %d, not %q", l, err, want)
}

// The chapter's examples, row by row.
func TestExamples(t *testing.T) {
	s, w := example(t)
	s.wantHealed(t, "the first row", api.Healed{Keys: 1}, api.OK)
	w[1].Wipe()
	s.wantHealed(t, "wipe drive 1", api.Healed{Written: 1, Keys: 1}, api.OK)
	s.wantHealed(t, "again", api.Healed{Keys: 1}, api.OK)
	w[0].Wipe()
	wantGet(t, s.set, "a", "hello")
	w[0].Offline(true)
	s.wantHealed(t, "drive 0 offline", api.Healed{Keys: 1}, api.ErrDegraded)
	w[0].Offline(false)
	s.wantHealed(t, "drive 0 online", api.Healed{Written: 1, Keys: 1}, api.OK)
	w[0].Wipe()
	w[1].Wipe()
	s.wantHealed(t, "wipe drives 0 and 1", api.Healed{Gone: 1}, api.OK)
	for i := range w {
		wantNames(t, w[i], "l")
		l, err := label.Read(w[i])
		fatalUnless(t, err == api.OK && l == api.Label{Store: theStore(), Shape: small(), Index: i, Epoch: 1}, "the label of the drive %d: %v, %d", i, l, err)
	}
	shards := shardsOf(api.Head{Store: theStore(), Shape: small(), Key: "b", Gen: api.Gen{Epoch: 1, Count: 2}}, []byte("x"))
	wantNumber(t, "Store", bay.Store(w[2], shards[2]), api.OK)
	w[0].Offline(true)
	w[1].Offline(true)
	s.wantHealed(t, "b stands at drive 2 alone", api.Healed{Unknown: 1}, api.ErrDegraded)
	wantNames(t, w[2], "l", "o62")

	s, w = example(t)
	h, err := heal.Heal(s.set, fan.Done(true))
	fatalUnless(t, h == api.Healed{} && err == api.ErrStopped, "done closed: %v, %d", h, err)
	for i := range w {
		s, w := example(t)
		w[i].Power(false)
		s.wantHealed(t, "the power off", api.Healed{}, api.ErrDown)
	}
	h, err = heal.Heal(nil, nil)
	fatalUnless(t, h == api.Healed{} && err == api.ErrNil, "no set: %v, %d", h, err)
	h, err = heal.Heal(nil, fan.Done(true))
	fatalUnless(t, h == api.Healed{} && err == api.ErrNil, "no set, done closed: %v, %d", h, err)
}

// What a drive is asked, round by round.
const (
	over       = "; Struck; Rest false"
	asksNames  = "SyncDir; List" + over
	asksLabel  = `; Read "l"` + over
	asksStatus = asksNames + asksLabel
)

func asksLook(key string) string { return fmt.Sprintf("; Read %q", nameOf(key)) + over }

func asksWrite(name string, b []byte) string {
	return fmt.Sprintf(`; Create "t"; Append "t" %x; Sync "t"; Rename "t" %q; SyncDir`, b, name) + over
}

func asksDrop(key string) string { return fmt.Sprintf("; Remove %q; SyncDir", nameOf(key)) + over }

// P23.2: the calls of each drive in each round: the keys one behind the other, rising; who has nothing to do in a round is told nevertheless that it is over.
func TestCallsInTheirOrder(t *testing.T) {
	l := []subject{
		shelf(small(), 0, "c", "b", "aa", "a"),
		shelf(small(), 1, "b", "c"),
		shelf(small(), 2, "aa", "b", "x"),
	}
	delete(l[1].(*spy).files, "l")
	l[2].(*spy).files["l"][20]++
	l[0].(*spy).names = []string{"l", "t", "o61", "o62", "o6", "O61", "o6A", "", "zzz", "o62"}
	form := func(key string, place int) []byte { return shelf(small(), place, key).files[nameOf(key)] }
	s := sceneOf(small(), l)
	s.wantHealed(t, "three drives", api.Healed{Written: 2, Gone: 2, Keys: 3}, api.OK)
	right := func(place int) string {
		return strings.TrimSuffix(asksLabel, over) + asksWrite("l", labelOf(theStore(), small(), place, 3))
	}
	for i, want := range []string{
		asksStatus + asksLook("a") + asksDrop("a") + asksLook("aa") + over + asksLook("b") + asksLook("c") + over + asksLook("x") + over,
		asksNames + right(1) + asksLook("a") + over + asksLook("aa") + asksWrite("o6161", form("aa", 1)) + asksLook("b") + asksLook("c") + over + asksLook("x") + over,
		asksNames + right(2) + asksLook("a") + over + asksLook("aa") + over + asksLook("b") + asksLook("c") + asksWrite("o63", form("c", 2)) + asksLook("x") + asksDrop("x"),
	} {
		fatalUnless(t, l[i].chart() == want, "the drive %d was asked\n%s\nnot\n%s", i, l[i].chart(), want)
	}
}

// P23.2: where all is well there is a round for the names, one for the labels, and one for each key; none further.
func TestRoundsOfAWholeStore(t *testing.T) {
	for _, shape := range shapes() {
		for _, keys := range [][]string{nil, {"a"}, {"a", "b"}, {"\x00", "a", "a/b", "\xff"}} {
			s := shelves(shape, keys...)
			s.wantHealed(t, "whole", api.Healed{Keys: len(keys)}, api.OK)
			want := asksStatus
			for _, key := range keys {
				want += asksLook(key)
			}
			for i, d := range s.disks {
				fatalUnless(t, d.chart() == want, "the drive %d was asked %s, not %s", i, d.chart(), want)
			}
		}
	}
}

// P23.2: of an unknown key, and of one that is absent while the healing is not whole, there is no further round.
func TestNoRoundOfAnUnknownKey(t *testing.T) {
	l := []subject{shelf(small(), 0, "a"), labelled(small(), 1).put("o61", []byte("spoilt")), labelled(small(), 2).put("o61", nil)}
	s := sceneOf(small(), l)
	s.wantHealed(t, "unknown", api.Healed{Unknown: 1}, api.ErrDegraded)
	for i, d := range l {
		fatalUnless(t, d.chart() == asksStatus+asksLook("a"), "the drive %d was asked %s", i, d.chart())
	}
	l = []subject{shelf(small(), 0, "a", "b"), labelled(small(), 1).refuse("l", api.ErrIO), labelled(small(), 2)}
	s = sceneOf(small(), l)
	s.wantHealed(t, "not whole", api.Healed{}, api.ErrDegraded)
	for i, d := range l {
		fatalUnless(t, d.chart() == asksStatus+asksLook("a")+asksLook("b"), "the drive %d was asked %s", i, d.chart())
	}
	l = []subject{shelf(small(), 0, "a", "b"), nil, labelled(small(), 2)}
	s = sceneOf(small(), l)
	s.wantHealed(t, "not whole", api.Healed{}, api.ErrDegraded)
	for _, i := range []int{0, 2} {
		fatalUnless(t, l[i].chart() == asksStatus+asksLook("a")+asksLook("b"), "the drive %d was asked %s", i, l[i].chart())
	}
}

// P23.2: while the healing is whole, the absent keys are taken away; from the first refusal on no more, but values are written all the same.
func TestWholeSoFar(t *testing.T) {
	for at, key := range []string{"a", "b", "c", "d"} {
		l := []subject{shelf(small(), 0, "a", "b", "c", "d", "v"), labelled(small(), 1), shelf(small(), 2, "v")}
		l[2].(*spy).refuse(nameOf(key), api.ErrOffline)
		s := sceneOf(small(), l)
		s.wantHealed(t, key, api.Healed{Written: 1, Gone: at, Keys: 1}, api.ErrDegraded)
	}
	l := []subject{shelf(small(), 0, "a", "b", "c", "d", "v"), labelled(small(), 1), shelf(small(), 2, "v").refuse(nameOf("v"), api.ErrOffline)}
	s := sceneOf(small(), l)
	s.wantHealed(t, "the last one", api.Healed{Gone: 4}, api.ErrDegraded)
}

// P23.2: a Look in which a drive is silent makes the healing less whole ahead of what is done for the same key.
func TestTheSameLook(t *testing.T) {
	l := []subject{shelf(small(), 0, "a"), shelf(small(), 1, "a").refuse("o61", api.ErrIO), labelled(small(), 2)}
	s := sceneOf(small(), l)
	s.wantHealed(t, "a silent one", api.Healed{}, api.ErrDegraded)
	fatalUnless(t, len(l[0].(*spy).files) == 2 && len(l[1].(*spy).files) == 2, "it was taken away")
}

// P23.2: a Store or a Drop that is refused makes it less whole for what comes behind it.
func TestARefusedChange(t *testing.T) {
	for _, number := range numbers {
		if number == api.ErrDown {
			continue
		}
		l := []subject{shelf(small(), 0, "a", "b"), shelf(small(), 1, "a"), labelled(small(), 2).fail(4, number)}
		s := sceneOf(small(), l)
		switch number { // of the Create of "a" at the place 2
		case api.OK:
			s.wantHealed(t, "nothing refused", api.Healed{Written: 1, Gone: 1, Keys: 1}, api.OK)
		case api.ErrMissing:
			s.wantHealed(t, "a Create of a missing file", api.Healed{Gone: 1, Keys: 1}, api.OK)
		default:
			s.wantHealed(t, "a Create that is refused", api.Healed{Keys: 1}, api.ErrDegraded)
		}
		l = []subject{shelf(small(), 0, "a", "b").fail(4, number), labelled(small(), 1), labelled(small(), 2)}
		s = sceneOf(small(), l)
		switch number { // of the Remove of "a" at the place 0
		case api.OK, api.ErrMissing:
			s.wantHealed(t, "nothing refused", api.Healed{Gone: 2}, api.OK)
		default:
			s.wantHealed(t, "a Remove that is refused", api.Healed{}, api.ErrDegraded)
		}
	}
}

// exhibit is what a place shows in a store of that shape, at that place; nil: there is no drive.
type exhibit func(shape api.Shape, place int) *spy

// stored shows the shard of a writing under the key "a", whose head is first changed.
func stored(gen api.Gen, data string, change func(h *api.Head)) exhibit {
	return func(shape api.Shape, place int) *spy {
		h := api.Head{Store: theStore(), Shape: shape, Key: "a", Gen: gen}
		change(&h)
		forms := formsOf(h, data)
		return labelled(shape, place).put("o61", slices.Clone(forms[min(place, len(forms)-1)]))
	}
}

// changed is an exhibit that is changed.
func changed(of exhibit, change func(s *spy)) exhibit {
	return func(shape api.Shape, place int) *spy {
		s := of(shape, place)
		change(s)
		return s
	}
}

// spoiled is an exhibit whose bytes under the key "a" are changed.
func spoiled(of exhibit, change func(b []byte) []byte) exhibit {
	return changed(of, func(s *spy) { s.files["o61"] = change(s.files["o61"]) })
}

// mute is an exhibit whose List answers this number, beside its names.
func mute(of exhibit, number api.Errno) exhibit {
	return changed(of, func(s *spy) { s.list = number })
}

// refused is an exhibit whose Read of "a" answers this number, beside its bytes.
func refused(of exhibit, number api.Errno) exhibit {
	return changed(of, func(s *spy) { s.refuse("o61", number) })
}

// failing is an exhibit whose call of this number is refused so.
func failing(of exhibit, call int, number api.Errno) exhibit {
	return changed(of, func(s *spy) { s.fail(call, number) })
}

func asItIs(*api.Head) {}

func nothing(shape api.Shape, place int) *spy { return labelled(shape, place) }

func empty(api.Shape, int) *spy { return &spy{} }

func nobody(api.Shape, int) *spy { return nil }

// The writings that stand there; the last one is newer than the set's Last.
var (
	oldOne    = stored(api.Gen{Epoch: 1, Count: 9}, "hello", asItIs)
	longOne   = stored(api.Gen{Epoch: 1, Count: 9}, "hello!", asItIs)
	youngOne  = stored(api.Gen{Epoch: 2, Count: 1}, "young", asItIs)
	futureOne = stored(api.Gen{Epoch: 9, Count: 9}, "", asItIs)
	spoiltOne = spoiled(oldOne, func(b []byte) []byte { b[20] ^= 1; return b })
)

// few are exhibits of each kind that counts, or does not, or ends it.
func few() []exhibit {
	return []exhibit{
		nobody, nothing, empty, oldOne, longOne, youngOne, spoiltOne, mute(oldOne, api.ErrIO), refused(oldOne, api.ErrIO), refused(oldOne, api.ErrMissing), refused(oldOne, api.ErrDown), failing(nothing, 4, api.ErrFull),
	}
}

// many are exhibits of all kinds.
func many() []exhibit {
	gen := api.Gen{Epoch: 1, Count: 9}
	all := append(few(), futureOne,
		stored(gen, "hello", func(h *api.Head) { h.Store[3] = 1 }),
		stored(gen, "hello", func(h *api.Head) { h.Shape.Block++ }),
		stored(gen, "hello", func(h *api.Head) { h.Shape.K = min(h.Shape.K+1, 255-h.Shape.M) }),
		stored(gen, "hello", func(h *api.Head) { h.Key = "b" }),
		stored(gen, "hello", func(h *api.Head) { h.Key = "aa" }),
		stored(api.Gen{Epoch: 4294967295, Count: 4294967295}, "last", asItIs),
		func(shape api.Shape, place int) *spy { return oldOne(shape, (place+1)%(shape.K+shape.M)) },
		spoiled(oldOne, func([]byte) []byte { return []byte{} }),
		spoiled(oldOne, func(b []byte) []byte { return append(b, 0) }),
		spoiled(oldOne, func(b []byte) []byte { return b[:len(b)-1] }),
		spoiled(oldOne, func(b []byte) []byte { return b[1:] }),
		spoiled(oldOne, func(b []byte) []byte { b[len(b)-5] ^= 1; return b }),
		changed(nothing, func(s *spy) { s.names = []string{"o61", "o61"} }),
		changed(oldOne, func(s *spy) { s.names = []string{"o62", "o60", "t"} }),
		changed(oldOne, func(s *spy) { s.put("t", []byte("left")).put("o62", nil) }),
	)
	for _, number := range numbers {
		all = append(all, refused(oldOne, number), refused(nothing, number), mute(oldOne, number))
		for call := range 10 {
			all = append(all, failing(oldOne, call, number), failing(nothing, call, number), failing(empty, call, number))
		}
	}
	return all
}

// gallery is a scene of which each place shows what the list says.
func gallery(shape api.Shape, l []exhibit) scene {
	return sceneOf(shape, spies(len(l), func(i int) *spy { return l[i](shape, i) }))
}

// P23.2, P23.3: all lists of few exhibits, in stores of two to four drives.
func TestPlacesShowFew(t *testing.T) {
	met := map[api.Errno]int{}
	for _, shape := range []api.Shape{{K: 1, M: 1, Block: 4}, small(), {K: 2, M: 2, Block: 2}, {K: 3, M: 1, Block: 2}} {
		shows := few()
		every(shape.K+shape.M, len(shows), func(numbers []int) {
			var l []exhibit
			for _, number := range numbers {
				l = append(l, shows[number])
			}
			_, err := check(t, func() scene { return gallery(shape, l) })
			met[err]++
		})
	}
	wantMet(t, met, api.OK, api.ErrDegraded, api.ErrDown)
}

// P23.2, P23.3: places of great stores and of others show and answer all kinds of things.
func TestPlacesShowMany(t *testing.T) {
	r := source(231)
	met, did := map[api.Errno]int{}, map[string]int{}
	great := []api.Shape{{K: 253, M: 1, Block: 1}, {K: 128, M: 127, Block: 2}, {K: 10, M: 10, Block: 2}, {K: 20, M: 3, Block: 7}}
	shows := many()
	for run := range 8000 {
		shape := pick(r, shapes()...)
		if run%200 == 0 {
			shape = pick(r, great...)
		}
		n := shape.K + shape.M
		l := slices.Repeat([]exhibit{pick(r, nothing, oldOne, oldOne, oldOne, longOne)}, n)
		some := pick(r, 0, 1, shape.M-1, shape.M, shape.M+1, shape.K-1, shape.K, r.Intn(n+1))
		one := pick(r, shows...)
		for _, i := range r.Perm(n)[:some] {
			l[i] = one
			if run%3 == 0 {
				l[i] = pick(r, shows...)
			}
		}
		h, err := check(t, func() scene { return gallery(shape, l) })
		met[err]++
		for what, is := range map[string]bool{"written": h.Written > 0, "gone": h.Gone > 0, "keys": h.Keys > 0, "unknown": h.Unknown > 0} {
			if is {
				did[fmt.Sprint(what, int(err))]++
			}
		}
	}
	wantMet(t, met, api.OK, api.ErrDegraded, api.ErrDown)
	for _, what := range []string{"written0", "gone0", "keys0", "written230", "keys230", "unknown230"} {
		fatalUnless(t, did[what] > 100, "%s: %v", what, did)
	}
	fatalUnless(t, did["gone230"] > 0 && did["unknown0"] == 0, "%v", did)
}

// P23.2, P23.3: at each drive each call is refused with each number, in a healing that has all to do: a label is missing, a shard, another one is spoilt, one never counted.
func TestEachCallRefused(t *testing.T) {
	met := map[api.Errno]int{}
	for _, shape := range shapes() {
		n := shape.K + shape.M
		for faulty := range n {
			for call := range 24 {
				for _, number := range numbers {
					_, err := check(t, func() scene { return hurt(shape, func(l []subject) { l[faulty].(*spy).fail(call, number) }) })
					met[err]++
					fatalUnless(t, number != api.ErrMissing || err == api.OK, "the call %d of the drive %d of %v answers %d: Heal = %d", call, faulty, shape, number, err)
				}
			}
		}
	}
	wantMet(t, met, api.OK, api.ErrDegraded, api.ErrDown)
}

// hurt is a scene in which there is all to do, and to which something else is done.
func hurt(shape api.Shape, change func(l []subject)) scene {
	s := shelves(shape, "b", "c")
	last := s.disks[len(s.disks)-1].(*spy)
	delete(last.files, "l")
	delete(last.files, nameOf("b"))
	s.disks[0].(*spy).files[nameOf("c")][5]++
	if shape.K > 1 {
		last.put(nameOf("a"), shelf(shape, len(s.disks)-1, "a").files[nameOf("a")])
	} else {
		last.put(nameOf("a"), []byte("spoilt"))
	}
	s.disks[0].(*spy).put(nameOf("d"), nil).put("t", []byte("left"))
	change(s.disks)
	return s
}

// What such a healing does, where nothing strikes it.
func TestAllThereIsToDo(t *testing.T) {
	for _, shape := range shapes() {
		for _, l := range []func(s scene) []subject{func(s scene) []subject { return s.disks }, func(s scene) []subject { return wounds(s.disks) }} {
			s := sceneOf(shape, l(hurt(shape, func([]subject) {})))
			s.wantHealed(t, "all there is to do", api.Healed{Written: 2, Gone: 2, Keys: 2}, api.OK)
			s.wantHealed(t, "and again", api.Healed{Keys: 2}, api.OK)
		}
	}
}

// A drive that says by itself that there is no label gets one, and the healing is not whole; where only the bytes are none it is.
func TestWhoSaysThatThereIsNoLabel(t *testing.T) {
	for _, shape := range shapes() {
		for place := range shape.K + shape.M {
			s := shelves(shape, "a")
			d := s.disks[place].(*spy)
			d.refuse("l", api.ErrLabel)
			s.wantHealed(t, "the drive says so", api.Healed{Keys: 1}, api.ErrDegraded)
			fatalUnless(t, strings.Contains(d.chart(), `Rename "t" "l"`), "the drive was asked %s", d.chart())

			s = shelves(shape, "a")
			d = s.disks[place].(*spy)
			d.put("l", []byte("no label"))
			s.wantHealed(t, "the bytes say so", api.Healed{Keys: 1}, api.OK)
			fatalUnless(t, strings.Contains(d.chart(), `Rename "t" "l"`), "the drive was asked %s", d.chart())
		}
	}
}

// A drive that says by itself that there is no label, and behind which the power goes: ErrDown.
func TestNoLabelAndNoPower(t *testing.T) {
	for call := 3; call < 8; call++ {
		s := shelves(small(), "a")
		s.disks[1].(*spy).refuse("l", api.ErrLabel).fail(call, api.ErrDown)
		s.wantHealed(t, "no label and no power", api.Healed{}, api.ErrDown)
	}
}

// P23.2: labels of all kinds: the right one stays, any other is written anew.
func TestLabels(t *testing.T) {
	right := labelOf(theStore(), small(), 1, 3)
	others := [][]byte{
		nil, {}, []byte("l"), right[:30], append(slices.Clone(right), 0), make([]byte, 31),
		labelOf(theStore(), small(), 0, 3), labelOf(theStore(), small(), 2, 3), labelOf(theStore(), small(), 1, 2), labelOf(theStore(), small(), 1, 4), labelOf(theStore(), small(), 1, 0),
		labelOf(theStore(), small(), 1, 4294967295), labelOf([8]byte{}, small(), 1, 3), labelOf(theStore(), api.Shape{K: 2, M: 1, Block: 5}, 1, 3), labelOf(theStore(), api.Shape{K: 3, M: 1, Block: 4}, 1, 3), labelOf(theStore(), api.Shape{K: 2, M: 2, Block: 4}, 1, 3),
		labelOf(theStore(), small(), 9, 3), labelOf(theStore(), small(), 1, 3+1<<32),
	}
	for i := range 31 * 8 {
		b := slices.Clone(right)
		b[i/8] ^= 1 << (i % 8)
		others = append(others, b)
	}
	for _, b := range others {
		anew := func() scene {
			s := shelves(small(), "a")
			s.disks[1].(*spy).files["l"] = b
			return s
		}
		h, err := check(t, anew)
		fatalUnless(t, h == api.Healed{Keys: 1} && err == api.OK, "%x: Heal = %v, %d", b, h, err)
		s := anew()
		s.heal(t)
		fatalUnless(t, slices.Equal(s.disks[1].(*spy).files["l"], right), "%x became %x", b, s.disks[1].(*spy).files["l"])
		for _, i := range []int{0, 2} {
			fatalUnless(t, s.disks[i].chart() == asksStatus+asksLook("a"), "the drive %d was asked %s", i, s.disks[i].chart())
		}
	}
}

// P23.2, P23.8: of all Lasts that a set may have the label gets the Epoch, and none is used up.
func TestEdgesOfLast(t *testing.T) {
	for _, epoch := range []int{1, 2, 65536, 4294967294, 4294967295} {
		for _, count := range []int{0, 1, 2, 65535, 4294967294, 4294967295} {
			anew := func() scene {
				s := shelves(small(), "a")
				delete(s.disks[1].(*spy).files, nameOf("a"))
				s.set.Last = api.Gen{Epoch: epoch, Count: count}
				return s
			}
			h, err := check(t, anew)
			fatalUnless(t, h == api.Healed{Written: 1, Keys: 1} && err == api.OK, "Heal = %v, %d", h, err)
			s := anew()
			s.heal(t)
			for i, d := range s.disks {
				want := labelOf(theStore(), small(), i, epoch)
				fatalUnless(t, slices.Equal(d.(*spy).files["l"], want), "the label of the drive %d: %x, not %x", i, d.(*spy).files["l"], want)
			}
		}
	}
}

// wrongShapes may not be.
func wrongShapes() []api.Shape {
	return []api.Shape{
		{}, {K: 2, M: 0, Block: 4}, {K: 2, M: -1, Block: 4}, {K: 1, M: 2, Block: 4}, {K: 2, M: 1, Block: 0}, {K: 2, M: 1, Block: -1}, {K: 2, M: 1, Block: 65537},
		{K: 128, M: 128, Block: 4}, {K: 255, M: 1, Block: 4}, {K: -1, M: -1, Block: 4}, {K: 0, M: 0, Block: 4},
		{K: math.MaxInt, M: math.MaxInt, Block: 1}, {K: math.MinInt, M: math.MinInt, Block: 1}, {K: math.MaxInt, M: 3, Block: 1}, {K: 2, M: 1, Block: math.MaxInt},
	}
}

// wrongSets hands over sets that may not be, of all kinds, and their drives.
func wrongSets(each func(set *api.Set, disks []subject)) {
	of := func(n int, change func(set *api.Set)) {
		l := spies(n, func(i int) *spy { return oldOne(small(), min(i, 2)) })
		s := sceneOf(small(), l)
		change(s.set)
		each(s.set, l)
	}
	for _, shape := range wrongShapes() {
		for _, n := range []int{0, 1, 2, 3, 255, 256} {
			of(n, func(set *api.Set) { set.Shape = shape })
		}
	}
	for _, n := range []int{0, 1, 2, 4, 6, 255, 256} {
		of(n, func(*api.Set) {})
	}
	for _, epoch := range []int{0, -1, 4294967296, math.MaxInt, math.MinInt} {
		of(3, func(set *api.Set) { set.Last.Epoch = epoch })
	}
	for _, count := range []int{-1, 4294967296, math.MaxInt, math.MinInt} {
		of(3, func(set *api.Set) { set.Last.Count = count })
	}
}

// Sets that may not be, ahead of all else that could be wrong: no drive is called.
func TestWrongSets(t *testing.T) {
	tried := 0
	wrongSets(func(set *api.Set, disks []subject) {
		tried++
		fatalUnless(t, !isSet(set), "there can be %v", set)
		for _, stopped := range []bool{false, true} {
			h, err := heal.Heal(set, fan.Done(stopped))
			fatalUnless(t, h == api.Healed{} && err == api.ErrArg, "Heal of %v = %v, %d", set, h, err)
		}
		for i, d := range disks {
			fatalUnless(t, d.chart() == "", "the drive %d was asked %s", i, d.chart())
		}
	})
	fatalUnless(t, tried > 100, "%d", tried)
}

// Every shape whose numbers are near their limits, with as many drives, one more and one fewer; none is there.
func TestEveryShape(t *testing.T) {
	none := make([]api.Disk, 600)
	met := map[api.Errno]int{}
	for k := -2; k < 260; k++ {
		for m := -2; m < 260; m++ {
			for _, block := range []int{-1, 0, 1, 65536, 65537} {
				for more := -1; more < 2; more++ {
					set := &api.Set{Disks: none[:max(0, k+m+more)], Shape: api.Shape{K: k, M: m, Block: block}, Last: api.Gen{Epoch: 1}}
					want := api.ErrArg
					if isSet(set) {
						want = api.ErrDegraded // nobody is there
					}
					h, err := heal.Heal(set, nil)
					met[err]++
					if err != want || h != (api.Healed{}) {
						t.Fatalf("Heal of %d drives of %v = %v, %d, not %d", len(set.Disks), set.Shape, h, err, want)
					}
				}
			}
		}
	}
	fatalUnless(t, met[api.ErrDegraded] > 1000 && len(met) == 2, "%v", met)
}

// The order of errors: of several things that are wrong the first one is answered.
func TestTheOrderOfErrors(t *testing.T) {
	type flaw struct {
		number api.Errno
		make   func(s *scene)
	}
	flaws := []flaw{
		{api.ErrNil, func(s *scene) { s.set = nil }},
		{api.ErrArg, func(s *scene) { s.set.Last.Epoch = 0 }},
		{api.ErrArg, func(s *scene) { s.set.Disks = append(s.set.Disks, nil) }},
		{api.ErrStopped, func(s *scene) { close(s.done) }},
		{api.ErrDown, func(s *scene) { s.disks[2].(*spy).fail(0, api.ErrDown) }},
		{api.ErrDown, func(s *scene) { s.disks[1].(*spy).refuse("l", api.ErrDown) }},
		{api.ErrDegraded, func(s *scene) { s.set.Disks[0], s.disks[0] = nil, nil }},
		{api.ErrDegraded, func(s *scene) { s.disks[1].(*spy).fail(1, api.ErrIO) }},
		{api.ErrDegraded, func(s *scene) {
			for _, i := range []int{1, 2} {
				s.disks[i].(*spy).files["o61"] = nil
			}
		}},
	}
	for subset := range 1 << len(flaws) {
		want := api.OK
		anew := func() scene {
			s := shelves(small(), "a")
			s.done = make(chan struct{})
			for i, f := range slices.Backward(flaws) {
				if subset>>i&1 == 1 {
					f.make(&s)
					want = f.number
				}
			}
			return s
		}
		_, err := check(t, anew)
		wantNumber(t, fmt.Sprintf("Heal with %b", subset), err, want)
	}
}

// What is refused ahead of any round does not look at done: who waits to send on it waits still.
func TestDoneIsNotLookedAt(t *testing.T) {
	for _, change := range []func(s *scene){
		func(s *scene) { s.set = nil },
		func(s *scene) { s.set.Shape.K = 3 },
		func(s *scene) { s.set.Last.Count = -1 },
	} {
		s := shelves(small(), "a")
		s.done = make(chan struct{})
		change(&s)
		ready, sent := make(chan struct{}), make(chan struct{})
		go func() {
			close(ready)
			s.done <- struct{}{}
			close(sent)
		}()
		<-ready
		time.Sleep(2 * time.Millisecond)
		_, err := s.heal(t)
		select {
		case <-sent:
			t.Fatalf("Heal = %d has received from done", err)
		case <-time.After(time.Millisecond):
		}
		<-s.done
		fatalUnless(t, err == api.ErrNil || err == api.ErrArg, "Heal = %d", err)
	}
}

// It is looked whether it is stopped once at the beginning of each round, and never else; what done holds stays, and what earlier rounds did.
func TestStopped(t *testing.T) {
	const rounds = 10 // names, labels; Look and a change of "a", "b", "c", "d"
	for at := range rounds + 1 {
		for _, way := range []string{"close", "hold"} {
			anew := func() scene {
				done := make(chan struct{}, 1)
				stop := func() {
					if way == "close" {
						close(done)
					} else {
						done <- struct{}{}
					}
				}
				s := hurt(small(), func([]subject) {})
				s.disks[1].(*spy).over = func(round int) {
					if round == at {
						stop()
					}
				}
				if at == 0 {
					stop()
				}
				s.done = done
				return s
			}
			want := api.ErrStopped
			if at == rounds {
				want = api.OK
			}
			_, err := check(t, anew)
			wantNumber(t, fmt.Sprintf("stopped behind %d rounds: Heal", at), err, want)
			s := anew()
			s.heal(t)
			for i, d := range s.disks {
				fatalUnless(t, d.(*spy).rounds == at, "stopped behind %d rounds: the drive %d was in %d", at, i, d.(*spy).rounds)
			}
			fatalUnless(t, way == "close" || len(s.done) == 1, "what done holds was taken")
		}
	}
}

// The power goes at each call of each drive in each round: the others go through to their end, then it is off at all. At a round's end it goes unseen by that round.
func TestThePower(t *testing.T) {
	for _, shape := range shapes() {
		met := map[api.Errno]int{}
		for struck := range shape.K + shape.M {
			for round := range 12 {
				for call := range 8 {
					anew := func() scene {
						s := sceneOf(shape, wounds(hurt(shape, func([]subject) {}).disks))
						s.disks[struck].(patient).Fuse(round, call, 9)
						return s
					}
					h, err := check(t, anew)
					met[err]++
					fatalUnless(t, err == api.ErrDown && h == api.Healed{} || err == api.OK && h.Keys == 2 && round > 8, "struck in round %d ahead of the call %d: Heal = %v, %d", round, call, h, err)
					s := anew()
					s.heal(t)
					for i, d := range s.disks {
						fatalUnless(t, d.(patient).On() == (round >= 10), "struck in round %d: the power at the drive %d: %v", round, i, d.(patient).On())
					}
				}
			}
		}
		fatalUnless(t, met[api.ErrDown] > 100 && met[api.OK] > 30, "%v", met)
	}
}

// The power goes at the end of the last round: nobody was asked anything behind it, so nobody answered ErrDown.
func TestThePowerGoesUnseen(t *testing.T) {
	s := sceneOf(small(), wounds(shelves(small(), "a").disks))
	s.disks[1].(patient).Fuse(2, 1, 0)
	s.wantHealed(t, "struck at the end", api.Healed{Keys: 1}, api.OK)
	s.wantHealed(t, "the next one", api.Healed{}, api.ErrDown)
}

// Who is told that a round is over, and that the power is gone, in each round.
func TestWhoIsStruck(t *testing.T) {
	shape := api.Shape{K: 3, M: 2, Block: 4}
	for struck := range 5 {
		for round := range 8 {
			for _, l := range [][]exhibit{{oldOne, mute(oldOne, api.ErrIO), nothing, nobody, oldOne}, {oldOne, nothing, empty, nothing, oldOne}, {oldOne, oldOne, oldOne, nobody, empty}} {
				check(t, func() scene {
					s := gallery(shape, l)
					if s.disks[struck] != nil {
						s.disks[struck].(*spy).struck = round
					}
					return s
				})
			}
		}
	}
}

// Names of all kinds are told, in whatever order and however often: the keys of the objects' names among them are gone through.
func TestNames(t *testing.T) {
	var any256 []byte
	for i := range 256 {
		any256 = append(any256, byte(i))
	}
	keys := []string{"\x00", "\xff", "o61", "t", "l", "a/b", "ä", string(any256[1:]), string(any256[:255]), "\x00\x00", "\xff\xff"}
	for n := range 5 {
		keys = append(keys, strings.Repeat("k", 1+n*50), strings.Repeat("k", 255-n))
	}
	slices.Sort(keys)
	keys = slices.Compact(keys)
	strange := []string{"", "o", "o6", "o616", "O61", "o6G", "o6A", "61", " o61", "o61 ", "o61\n", "t", "l", "tt", nameOf(strings.Repeat("k", 256)), nameOf(""), strings.Repeat("o", 1024), "ä", "\xff"}
	for lost := range 3 {
		anew := func() scene {
			s := shelves(small(), keys...)
			for i, d := range s.disks {
				d := d.(*spy)
				d.names = slices.Concat(strange, strange[i:], []string{nameOf(keys[i]), nameOf(keys[i])})
				for _, name := range strange[:5] {
					d.put(name, []byte("as it is"))
				}
			}
			for i, key := range keys {
				if i%2 == 0 {
					delete(s.disks[lost].(*spy).files, nameOf(key))
				}
			}
			return s
		}
		h, err := check(t, anew)
		fatalUnless(t, h == api.Healed{Written: (len(keys) + 1) / 2, Keys: len(keys)} && err == api.OK, "Heal = %v, %d", h, err)
		s := anew()
		s.heal(t)
		for i, d := range s.disks {
			for _, name := range strange[:5] {
				fatalUnless(t, string(d.(*spy).files[name]) == "as it is", "the drive %d: %q became %q", i, name, d.(*spy).files[name])
			}
			for _, key := range keys {
				want := shelf(small(), i, key).files[nameOf(key)]
				fatalUnless(t, slices.Equal(d.(*spy).files[nameOf(key)], want), "the drive %d: %q became %x, not %x", i, key, d.(*spy).files[nameOf(key)], want)
			}
		}
	}
}

// P23.2: a key that a single drive tells is looked for at all of them, also at those that don't tell it, or tell nothing.
func TestOneTellsIt(t *testing.T) {
	for _, shape := range shapes() {
		n := shape.K + shape.M
		for teller := range n {
			l := slices.Repeat([]exhibit{mute(oldOne, api.ErrIO)}, n)
			l[teller] = oldOne
			s := gallery(shape, l)
			s.wantHealed(t, "one tells it", api.Healed{Keys: 1}, api.ErrDegraded)
			l[teller] = changed(nothing, func(s *spy) { s.names = []string{"o61"} })
			s = gallery(shape, l)
			s.wantHealed(t, "one tells it, and has it not", api.Healed{Written: 1, Keys: 1}, api.ErrDegraded)
		}
		s := gallery(shape, slices.Repeat([]exhibit{mute(oldOne, api.ErrMissing)}, n))
		s.wantHealed(t, "nobody tells it, and none refuses", api.Healed{}, api.OK)
	}
}

// P23.2: the bytes that are written are those of the shard that was there at first, of objects of all sizes, whichever places are left.
func TestWhatIsWritten(t *testing.T) {
	r := source(232)
	for _, shape := range append(shapes(), api.Shape{K: 6, M: 4, Block: 5}) {
		n := shape.K + shape.M
		for _, size := range []int{0, 1, shape.K - 1, shape.K, shape.K + 1, shape.K * shape.Block, shape.K*shape.Block + 1, 3*shape.K*shape.Block - 1, 100} {
			data := make([]byte, size)
			r.Read(data)
			gen := api.Gen{Epoch: 1 + r.Intn(5), Count: 1 + r.Intn(5)}
			shards := shardsOf(api.Head{Store: theStore(), Shape: shape, Key: "a", Gen: gen}, data)
			for lost := range shape.M + 1 {
				gone := r.Perm(n)[:lost]
				s := sceneOf(shape, spies(n, func(i int) *spy {
					if slices.Contains(gone, i) {
						return labelled(shape, i)
					}
					return labelled(shape, i).put("o61", formOf(shards[i]))
				}))
				s.wantHealed(t, fmt.Sprint(shape, size, gone), api.Healed{Written: lost, Keys: 1}, api.OK)
				for i, d := range s.disks {
					fatalUnless(t, slices.Equal(d.(*spy).files["o61"], formOf(shards[i])), "%v, %d bytes, lost %v: the drive %d holds another shard", shape, size, gone, i)
				}
			}
		}
	}
}

// P23.2: the writing that counts is brought to all places, also to those that show another one, newer or older; the newest that counts, where two do.
func TestWhichWritingIsWritten(t *testing.T) {
	for _, x := range []struct {
		shape api.Shape
		l     []exhibit
		want  exhibit
		did   api.Healed
	}{
		{small(), []exhibit{oldOne, youngOne, oldOne}, oldOne, api.Healed{Written: 1, Keys: 1}},
		{small(), []exhibit{youngOne, youngOne, oldOne}, youngOne, api.Healed{Written: 1, Keys: 1}},
		{small(), []exhibit{oldOne, longOne, longOne}, longOne, api.Healed{Written: 1, Keys: 1}},
		{small(), []exhibit{futureOne, futureOne, spoiltOne}, futureOne, api.Healed{Written: 1, Keys: 1}},
		{small(), []exhibit{oldOne, longOne, youngOne}, nothing, api.Healed{Gone: 3}},
		{small(), []exhibit{oldOne, spoiltOne, nothing}, nothing, api.Healed{Gone: 2}},
		{api.Shape{K: 2, M: 2, Block: 4}, []exhibit{oldOne, youngOne, youngOne, oldOne}, youngOne, api.Healed{Written: 2, Keys: 1}},
		{api.Shape{K: 2, M: 2, Block: 4}, []exhibit{oldOne, longOne, oldOne, longOne}, longOne, api.Healed{Written: 2, Keys: 1}},
		{api.Shape{K: 1, M: 1, Block: 4}, []exhibit{oldOne, youngOne}, youngOne, api.Healed{Written: 1, Keys: 1}},
		{api.Shape{K: 1, M: 1, Block: 4}, []exhibit{oldOne, spoiltOne}, oldOne, api.Healed{Written: 1, Keys: 1}},
		{api.Shape{K: 1, M: 1, Block: 4}, []exhibit{spoiltOne, nothing}, nothing, api.Healed{Gone: 1}},
		{api.Shape{K: 3, M: 2, Block: 4}, []exhibit{oldOne, oldOne, youngOne, youngOne, spoiltOne}, nothing, api.Healed{Gone: 5}},
	} {
		check(t, func() scene { return gallery(x.shape, x.l) })
		s := gallery(x.shape, x.l)
		s.wantHealed(t, fmt.Sprint(x.shape), x.did, api.OK)
		for i, d := range s.disks {
			want := x.want(x.shape, i).files["o61"]
			fatalUnless(t, slices.Equal(d.(*spy).files["o61"], want), "%v: the drive %d holds %x, not %x", x.shape, i, d.(*spy).files["o61"], want)
		}
	}
}

// Several keys at a time, each at some of the places, some of them spoilt, or of another writing, with labels and without.
func TestSomeKeys(t *testing.T) {
	pool := []string{"a", "b", "a/", "aa", "\x00", "\xff", strings.Repeat("z", 255)}
	met, did := map[api.Errno]int{}, map[api.Healed]int{}
	for seed := range int64(3000) {
		h, err := check(t, func() scene {
			r := source(seed)
			shape := pick(r, shapes()...)
			much, calm := pick(r, 2, 4, 20), r.Intn(2) == 0
			return sceneOf(shape, spies(shape.K+shape.M, func(i int) *spy {
				if !calm && r.Intn(12) == 0 {
					return nil
				}
				s := pick(r, labelled, labelled, empty)(shape, i)
				for _, key := range pool {
					if r.Intn(much) == 0 {
						continue
					}
					b := slices.Clone(shelf(shape, i, key).files[nameOf(key)])
					switch r.Intn(30) {
					case 0:
						b[r.Intn(len(b))] ^= 1
					case 1:
						b = b[:r.Intn(len(b))]
					case 2:
						b = formsOf(api.Head{Store: theStore(), Shape: shape, Key: key, Gen: api.Gen{Epoch: 2, Count: 1}}, "of "+key)[i]
					case 3:
						if !calm {
							s.refuse(nameOf(key), pick(r, numbers[:5]...))
						}
					}
					s.put(nameOf(key), b)
				}
				if !calm && r.Intn(6) == 0 {
					s.fail(r.Intn(30), pick(r, numbers...))
				}
				return s
			}))
		})
		met[err]++
		did[h]++
	}
	wantMet(t, met, api.OK, api.ErrDegraded, api.ErrDown)
	fatalUnless(t, len(did) > 100, "%d", len(did))
}

// Wounds with plans, offline, with fuses, and on which this and that stands: Heal does to them what the words do, and answers the same.
func TestSomeWounds(t *testing.T) {
	met := map[api.Errno]int{}
	for seed := range int64(3000) {
		_, err := check(t, func() scene { return someWorld(seed) })
		met[err]++
	}
	wantMet(t, met, api.OK, api.ErrDegraded, api.ErrDown)
}

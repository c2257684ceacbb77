package wound_test

import (
	"fmt"
	"math"
	"reflect"
	"slices"
	"strings"
	"testing"

	"cairn/api"
	"cairn/drive"
	"cairn/wound"
)

func fatalUnless(t *testing.T, is bool, says string, args ...any) {
	t.Helper()
	if !is {
		t.Fatalf(says, args...)
	}
}

// play makes the steps one behind the other and looks at their answers, one text a step, in which each number stands for itself.
func play(t *testing.T, d device, steps []step, want ...string) {
	t.Helper()
	fatalUnless(t, len(steps) == len(want), "%d steps, %d answers", len(steps), len(want))
	for i, s := range steps {
		if got := s.do(d); got != want[i] {
			t.Fatalf("%v = %q, not %q; behind %v", s, got, want[i], steps[:i])
		}
	}
}

// makeAll makes the steps, whatever they answer.
func makeAll(d device, steps ...step) {
	for _, s := range steps {
		s.do(d)
	}
}

func fault(at, kind int) api.Fault { return api.Fault{At: at, Kind: kind} }

// loaded is a drive of 100 bytes with two files.
func loaded() *drive.Drive {
	return drive.Load(100, []api.File{{Name: "a", Data: []byte("one")}, {Name: "b", Data: []byte("twenty")}})
}

// eight are the eight calls of the drive, each of which is answered OK on a loaded drive.
func eight() []step {
	return []step{create("c"), appendTo("a", "xyz"), syncFile("a"), rename("a", "d"), remove("a"), syncDir(), read("a"), list()}
}

// refused is how the step is answered with that error.
func refused(s step, err int) string {
	switch strings.Fields(s.says)[0] {
	case "Read":
		return fmt.Sprintf(`"" %d`, err)
	case "List":
		return fmt.Sprintf(`[] %d`, err)
	}
	return fmt.Sprint(err)
}

// The chapter's examples, row by row.
func TestExamples(t *testing.T) {
	w := wound.New(drive.New(100))
	play(t, w, []step{on(), calls(), struck()}, "true", "0", "false")
	play(t, w, []step{create("a"), appendTo("a", "\x01\x02\x03"), calls()}, "0", "0", "2")
	play(t, w, []step{arm(fault(1, api.FaultIO), fault(0, api.FaultFull)), read("a"), read("a"), read("a"), calls()}, "", `"\x01\x02\x03" 0`, `"" 120`, `"\x01\x02\x03" 0`, "3")
	play(t, w, []step{arm(fault(0, api.FaultFull)), appendTo("a", "\x04"), appendTo("a", "\x04")}, "", "111", "0")
	play(t, w, []step{offline(true), syncFile("a"), calls(), offline(false)}, "", "121", "2", "")
	play(t, w, []step{rest(false), fuse(1, 1, 2), struck(), rest(false), struck()}, "", "", "false", "", "true")
	play(t, w, []step{syncFile("a"), appendTo("a", "\x05\x06\x07"), on(), appendTo("a", "\x08"), calls()}, "0", "122", "false", "122", "4")
	play(t, w, []step{loose("a"), used()}, "2 0", "6")
	play(t, w, []step{rest(true), struck(), power(true), read("a")}, "", "false", "", `"\x01\x02\x03\x04\x05\x06" 0`)
	fatalUnless(t, wound.New(nil) == nil, "New of no drive is there")
}

// P12.1: the wound's drive is the one that was handed in, no copy: what is done to either is seen in both.
func TestDriveIsItself(t *testing.T) {
	d := drive.New(100)
	w := wound.New(d)
	fatalUnless(t, w != nil && w.Drive == d, "New has another drive")
	makeAll(d, create("a"), appendTo("a", "one"))
	play(t, w, []step{read("a"), appendTo("a", "two"), calls()}, `"one" 0`, "0", "2")
	play(t, d, []step{read("a"), syncFile("a"), wipe()}, `"onetwo" 0`, "0", "0")
	play(t, w, []step{read("a"), list()}, `"" 110`, "[] 0")
	makeAll(w, offline(true), power(false))
	play(t, d, []step{create("b"), list(), struck()}, "0", `["b"] 0`, "false")
}

// P12.1: two wounds of one drive have it in common, and nothing else.
func TestTwoWoundsOfOneDrive(t *testing.T) {
	d := loaded()
	w, v := wound.New(d), wound.New(d)
	fatalUnless(t, w != v, "New answers one wound twice")
	makeAll(w, arm(fault(0, 1)), fuse(0, 1, 0))
	play(t, v, []step{struck(), remove("b"), calls()}, "false", "0", "1")
	play(t, w, []step{calls(), list(), list(), on()}, "0", "[] 120", "[] 122", "false")
	play(t, v, []step{on(), list(), offline(true)}, "true", `["a"] 0`, "")
	play(t, w, []step{power(true), list(), calls()}, "", `["a"] 0`, "3")
}

// Ways: the drive is embedded; what the wound does not do in its own way is promoted.
func TestDriveIsEmbedded(t *testing.T) {
	f, is := reflect.TypeFor[wound.Wound]().FieldByName("Drive")
	fatalUnless(t, is && f.Anonymous && f.Type == reflect.TypeFor[*drive.Drive](), "the drive is not embedded")
}

// P12.2: each call of the drive counts, whatever the drive, the plan or the fuse answers; Arm counts from 0, and nothing else does.
func TestCounting(t *testing.T) {
	for _, s := range eight() {
		play(t, wound.New(loaded()), []step{s, calls()}, s.do(wound.New(loaded())), "1")
	}
	w := wound.New(loaded())
	play(t, w, []step{create(""), read("z"), rename("a", ""), appendTo("a", strings.Repeat("x", 200)), calls()}, "91", `"" 110`, "91", "111", "4")
	play(t, w, []step{rest(false), power(true), offline(false), fuse(3, 3, 3), rest(true), power(true), calls()}, "", "", "", "", "", "", "4")
	play(t, w, []step{arm(), calls(), list(), calls()}, "", "0", `["a" "b"] 0`, "1")
	play(t, w, []step{arm(fault(1, 1), fault(2, 1)), list(), list(), list(), calls()}, "", `["a" "b"] 0`, "[] 120", "[] 120", "3")
	play(t, w, []step{rest(false), fuse(0, 0, 0), list(), calls(), list(), calls()}, "", "", "[] 122", "4", "[] 122", "4")
	play(t, w, []step{arm(), calls(), offline(true), power(true), list(), calls()}, "", "0", "", "", "[] 121", "0")
}

// P12.2: Arm leaves the power, the line, the fuse and the count of the round's calls.
func TestArmLeavesTheRest(t *testing.T) {
	w := wound.New(loaded())
	play(t, w, []step{fuse(0, 2, 0), list(), arm(), struck(), list(), arm(), list(), on(), calls()}, "", `["a" "b"] 0`, "", "true", `["a" "b"] 0`, "", "[] 122", "false", "1")
	play(t, w, []step{arm(), on(), struck(), list()}, "", "false", "true", "[] 122")
	play(t, w, []step{power(true), offline(true), arm(), list()}, "", "", "", "[] 121")
}

// P12.2: a new plan takes the earlier one's place, whole; no plan is one.
func TestArmAnew(t *testing.T) {
	w := wound.New(loaded())
	play(t, w, []step{arm(fault(0, 1), fault(1, 1)), list(), arm(fault(1, 2)), list(), syncDir(), calls()}, "", "[] 120", "", `["a" "b"] 0`, "0", "2")
	play(t, w, []step{arm(fault(0, 1), fault(1, 1)), syncDir(), arm(), syncDir(), syncDir()}, "", "120", "", "0", "0")
	w.Arm([]api.Fault{fault(0, 1)})
	w.Arm(nil)
	play(t, w, []step{syncDir(), calls()}, "0", "1")
	w.Arm([]api.Fault{fault(0, 1)})
	w.Arm([]api.Fault{})
	play(t, w, []step{syncDir(), calls()}, "0", "1")
}

// P12.6: FaultIO strikes each call, FaultFull Create and Append alone, no other kind any; nothing else is done.
func TestKindsOfFaults(t *testing.T) {
	for i, s := range eight() {
		plain := loaded()
		done := s.do(plain)
		for _, kind := range []int{math.MinInt, -1, 0, 1, 2, 3, 4, 120, math.MaxInt} {
			want, state := done, stateOf(plain)
			if kind == 1 {
				want, state = refused(s, 120), stateOf(loaded())
			}
			if kind == 2 && i < 2 {
				want, state = refused(s, 111), stateOf(loaded())
			}
			w := wound.New(loaded())
			play(t, w, []step{arm(fault(0, kind)), s, calls(), on(), struck()}, "", want, "1", "true", "false")
			fatalUnless(t, stateOf(w) == state, "%v at a fault of kind %d leaves %s, not %s", s, kind, stateOf(w), state)
		}
	}
}

// P12.6: of the faults of one call the first counts alone, though it does nothing.
func TestFirstFaultCounts(t *testing.T) {
	kinds := []int{0, 1, 2, 3, -1}
	for _, first := range kinds {
		for _, second := range kinds {
			for _, s := range eight() {
				one, two := wound.New(loaded()), wound.New(loaded())
				one.Arm([]api.Fault{fault(1, first)})
				two.Arm([]api.Fault{fault(2, 1), fault(1, first), fault(0, 0), fault(1, second), fault(1, 1)})
				for _, each := range []step{list(), s} {
					sameAnswer(t, two, one, each, []step{arm(fault(1, first), fault(1, second))})
				}
				sameState(t, two, one, []step{s})
			}
		}
	}
}

// P12.6: a fault strikes just the call of its number, wherever in the plan it stands.
func TestFaultsStrikeTheirCall(t *testing.T) {
	for at := range 6 {
		for _, plan := range [][]api.Fault{{fault(at, 1)}, {fault(9, 1), fault(at, 1)}, {fault(at, 1), fault(-1, 1), fault(math.MinInt, 1), fault(math.MaxInt, 1)}} {
			w := wound.New(loaded())
			makeAll(w, list(), list(), list())
			w.Arm(plan)
			for i := range 8 {
				want := "0"
				if i == at {
					want = "120"
				}
				play(t, w, []step{syncDir(), rest(false)}, want, "")
			}
		}
	}
}

// P12.3: offline each call of the drive is refused and not counted, in the round neither; the fuse and the plan wait.
func TestOffline(t *testing.T) {
	for _, s := range eight() {
		w := wound.New(loaded())
		play(t, w, []step{arm(fault(0, 1)), fuse(0, 1, 9), offline(true), s, s, calls(), on(), struck()}, "", "", "", refused(s, 121), refused(s, 121), "0", "true", "true")
		fatalUnless(t, stateOf(w) == stateOf(loaded()), "%v offline leaves %s", s, stateOf(w))
		play(t, w, []step{offline(true), s, offline(false), syncDir(), calls(), s, calls(), on()}, "", refused(s, 121), "", "120", "1", refused(s, 122), "2", "false")
	}
	w := wound.New(loaded())
	play(t, w, []step{offline(false), syncDir(), offline(true), rest(false), power(true), arm(), syncDir(), offline(false), syncDir()}, "", "0", "", "", "", "", "121", "", "0")
}

// P12.5, P12.11: without power each call of the drive is refused and not counted, offline or not, until the power is on.
func TestPower(t *testing.T) {
	for _, s := range eight() {
		for _, off := range []step{power(false), rest(true)} {
			for _, line := range []bool{true, false} {
				w := wound.New(loaded())
				play(t, w, []step{offline(line), arm(fault(0, 1)), off, on(), s, s, calls(), rest(false), on(), s}, "", "", "", "false", refused(s, 122), refused(s, 122), "0", "", "false", refused(s, 122))
				play(t, w, []step{arm(), fuse(0, 0, 3), on(), s, struck()}, "", "", "false", refused(s, 122), "true")
				fatalUnless(t, stateOf(w) == stateOf(loaded()), "%v without power leaves %s", s, stateOf(w))
				play(t, w, []step{offline(false), s, fuse(-1, 0, 0), power(true), on(), s}, "", refused(s, 122), "", "", "true", s.do(loaded()))
			}
		}
	}
}

// P12.5: Power changes nothing else: counts, plan, fuse, line and drive stay.
func TestPowerAlone(t *testing.T) {
	w := wound.New(loaded())
	makeAll(w, appendTo("a", "loose"), create("c"), arm(fault(3, 1)), syncFile("b"), fuse(0, 4, 1))
	before := stateOf(w)
	play(t, w, []step{power(false), power(false), power(true), power(true), calls(), struck()}, "", "", "", "", "1", "true")
	fatalUnless(t, stateOf(w) == before, "Power leaves %s, not %s", stateOf(w), before)
	play(t, w, []step{syncFile("b"), syncFile("b"), on()}, "0", "122", "false") // the second is the round's call of the number 4
	play(t, w, []step{power(true), calls(), syncFile("b"), offline(true), power(false), power(true), syncFile("b")}, "", "3", "120", "", "", "", "121")
}

// P12.4: a fuse strikes at its call of its round, at no other, and is gone behind that round, struck or not.
func TestFuseStrikesItsCall(t *testing.T) {
	for round := range 4 {
		for call := range 4 {
			w := wound.New(loaded())
			w.Fuse(round, call, 0)
			for r := range 6 {
				for c := range 3 {
					play(t, w, []step{struck()}, fmt.Sprint(r == round))
					switch {
					case r == round && c == call:
						play(t, w, []step{syncDir(), on(), struck(), syncDir(), power(true), struck()}, "122", "false", "true", "122", "", "true")
					default:
						play(t, w, []step{syncDir(), on()}, "0", "true")
					}
				}
				play(t, w, []step{struck(), rest(false), on()}, fmt.Sprint(r == round), "", "true")
			}
			play(t, w, []step{struck(), calls()}, "false", "18")
		}
	}
}

// P12.4: the round's calls are counted from its beginning, not from the Fuse; a number that has gone by strikes nothing.
func TestFuseInTheMidst(t *testing.T) {
	w := wound.New(loaded())
	play(t, w, []step{list(), syncDir(), fuse(0, 1, 0), syncDir(), syncDir(), struck(), on()}, `["a" "b"] 0`, "0", "", "0", "0", "true", "true")
	play(t, w, []step{fuse(0, 4, 0), struck(), syncDir(), on()}, "", "true", "122", "false")
	play(t, w, []step{power(true), syncDir(), fuse(0, 6, 0), syncDir()}, "", "0", "", "122")
	play(t, w, []step{power(true), rest(false), fuse(0, 0, 0), rest(false), syncDir(), on()}, "", "", "", "", "0", "true")
	play(t, w, []step{rest(false), fuse(0, 0, 0), syncDir(), on()}, "", "", "122", "false")
}

// P12.4: there is one fuse, the last one; none behind one whose round is below 0.
func TestFuseAnew(t *testing.T) {
	w := wound.New(loaded())
	play(t, w, []step{fuse(0, 0, 0), fuse(1, 1, 0), struck(), syncDir(), syncDir(), rest(false), struck(), syncDir(), syncDir()}, "", "", "false", "0", "0", "", "true", "0", "122")
	play(t, w, []step{power(true), rest(false), struck()}, "", "", "false")
	for _, below := range []int{-1, -2, math.MinInt} {
		play(t, w, []step{fuse(0, 0, 0), fuse(below, 0, 0), struck(), syncDir(), rest(false), struck(), syncDir()}, "", "", "false", "0", "", "false", "0")
		play(t, w, []step{fuse(1, 0, 0), fuse(below, 0, 0), rest(false), struck(), syncDir(), rest(false), syncDir()}, "", "", "", "false", "0", "", "0")
	}
	for _, call := range []int{-1, math.MinInt, math.MaxInt} {
		play(t, w, []step{rest(false), fuse(0, call, 0), struck(), syncDir(), syncDir(), struck(), rest(false), struck()}, "", "", "true", "0", "0", "true", "", "false")
	}
	play(t, w, []step{fuse(math.MaxInt, 0, 0), rest(false), rest(false), rest(false), struck(), syncDir()}, "", "", "", "", "false", "0")
}

// P12.5: no number of rounds without a fuse makes one.
func TestRestsWithoutFuse(t *testing.T) {
	w := wound.New(loaded())
	for range 300 {
		play(t, w, []step{rest(false), struck(), syncDir()}, "", "false", "0")
	}
	w.Fuse(299, 0, 0)
	for range 299 {
		play(t, w, []step{struck(), syncDir(), rest(false)}, "false", "0", "")
	}
	play(t, w, []step{struck(), syncDir()}, "true", "122")
}

// P12.6: a fuse goes ahead of the plan, whose fault has gone by then.
func TestFuseAheadOfPlan(t *testing.T) {
	for _, kind := range []int{1, 2} {
		w := wound.New(loaded())
		play(t, w, []step{arm(fault(0, kind), fault(1, 1)), fuse(0, 0, 2), appendTo("a", "xyz"), on(), calls()}, "", "", "122", "false", "1")
		play(t, w, []step{image(), power(true), appendTo("a", "xyz"), appendTo("a", "xyz")}, `"a":"onexy" "b":"twenty" `, "", "120", "0")
	}
}

// P12.6: at each call the fuse leaves the drive as it was, but for an Append's first bytes.
func TestFuseAtEachCall(t *testing.T) {
	for i, s := range eight() {
		for _, inside := range []int{math.MinInt, -1, 0, 1, 2, 3, 4, math.MaxInt} {
			w, plain := wound.New(loaded()), loaded()
			play(t, w, []step{fuse(0, 0, inside), s, on(), calls(), struck()}, "", refused(s, 122), "false", "1", "true")
			if i == 1 {
				plain.Append("a", []byte("xyz")[:min(max(inside, 0), 3)])
			}
			fatalUnless(t, stateOf(w) == stateOf(plain), "%v at a fuse of %d leaves %s, not %s", s, inside, stateOf(w), stateOf(plain))
		}
	}
}

// P12.6: the first bytes are put just as an Append of these alone would: there must be such a file, and room for them all.
func TestFirstBytesOfAnAppend(t *testing.T) {
	ten := func() *drive.Drive {
		return drive.Load(10, []api.File{{Name: "a", Data: []byte("1234")}, {Name: "b", Data: []byte("567")}})
	}
	rows := []struct {
		name, data string
		inside     int
		want       string
	}{
		{"a", "xyzxyz", 2, `"a":"1234xy" "b":"567" `},
		{"a", "xyzxyz", 3, `"a":"1234xyz" "b":"567" `},
		{"a", "xyzxyz", 4, `"a":"1234" "b":"567" `},
		{"a", "xyzxyz", 6, `"a":"1234" "b":"567" `},
		{"a", "xyzxyz", 99, `"a":"1234" "b":"567" `},
		{"b", "xyz", 99, `"a":"1234" "b":"567xyz" `},
		{"b", "xyz", 3, `"a":"1234" "b":"567xyz" `},
		{"b", "", 3, `"a":"1234" "b":"567" `},
		{"c", "xyz", 1, `"a":"1234" "b":"567" `},
		{"", "xyz", 1, `"a":"1234" "b":"567" `},
		{strings.Repeat("a", 1025), "xyz", 1, `"a":"1234" "b":"567" `},
	}
	for _, row := range rows {
		w := wound.New(ten())
		play(t, w, []step{fuse(0, 0, row.inside), appendTo(row.name, row.data), on(), image(), pending()}, "", "122", "false", row.want, "0")
		safe := `"a":"1234" "b":"567" `
		fatalUnless(t, filesAsText(w.Safe()) == safe, "%v is safe", filesAsText(w.Safe()))
		makeAll(w, crash(api.Fate{}))
		fatalUnless(t, filesAsText(w.Image()) == safe, "%v stands behind a Crash", filesAsText(w.Image()))
	}
}

// P12.5: Rest begins the round's count anew, and no other; it takes the power, or leaves it.
func TestRest(t *testing.T) {
	w := wound.New(loaded())
	play(t, w, []step{syncDir(), syncDir(), rest(false), calls(), fuse(0, 1, 0), syncDir(), syncDir()}, "0", "0", "", "2", "", "0", "122")
	play(t, w, []step{rest(false), on(), struck(), power(true), rest(true), on(), power(true), on()}, "", "false", "false", "", "", "false", "", "true")
	play(t, w, []step{fuse(1, 0, 0), rest(true), struck(), on(), power(true), syncDir(), on()}, "", "", "true", "false", "", "122", "false")
	play(t, w, []step{power(true), fuse(2, 0, 0), offline(true), rest(false), rest(false), struck(), offline(false), syncDir()}, "", "", "", "", "", "true", "", "122")
}

// P12.7: the drive's own is neither counted nor refused, nor struck, in whatever state the wound is.
func TestOwnIsNeverRefused(t *testing.T) {
	owns := []step{used(), pending(), loose("a"), loose("z"), crash(api.Fate{Dirs: []bool{true}, Cuts: []int{2}}), crash(api.Fate{}), image(), safe(), flip("a", 0, 1, 2), flip("a", -1, 1), cut("a", 2), cut("z", 2), cut("", 2), wipe()}
	states := [][]step{
		{}, {power(false)}, {offline(true)}, {power(false), offline(true)}, {fuse(0, 0, 1)}, {arm(fault(0, 1))}, {fuse(0, 0, 1), syncDir()}, {rest(true), arm(fault(0, 2)), fuse(1, 0, 0)},
	}
	for _, state := range states {
		for _, s := range owns {
			plain := loaded()
			w := wound.New(plain)
			makeAll(plain, appendTo("a", "loose"), create("c"), rename("b", "d"))
			makeAll(w, state...)
			before := fmt.Sprint(w.Calls(), w.On(), w.Struck())
			other := loaded()
			makeAll(other, appendTo("a", "loose"), create("c"), rename("b", "d"))
			sameAnswer(t, w, other, s, state)
			fatalUnless(t, stateOf(w) == stateOf(other), "%v behind %v leaves %s, not %s", s, state, stateOf(w), stateOf(other))
			fatalUnless(t, fmt.Sprint(w.Calls(), w.On(), w.Struck()) == before, "%v behind %v turns the wound", s, state)
		}
	}
	w := wound.New(loaded())
	makeAll(w, arm(fault(0, 1)), fuse(0, 1, 0))
	makeAll(w, owns...)
	play(t, w, []step{list(), list(), on()}, "[] 120", "[] 122", "false")
}

// P12.8: a wound that is not there.
func TestNoWound(t *testing.T) {
	var none *wound.Wound
	for _, state := range []step{rest(false), arm(), arm(fault(0, 1)), offline(true), offline(false), fuse(0, 0, 0), fuse(-1, 0, 0), rest(true), power(true), power(false)} {
		state.do(none)
		play(t, none, []step{calls(), struck(), on()}, "0", "false", "false")
		for _, s := range append(eight(), create(""), appendTo("", ""), rename("", ""), read("")) {
			play(t, none, []step{s}, refused(s, 1))
		}
	}
}

// P12.8: a zero value is a wound like any other, whose drive is not there.
func TestZeroValue(t *testing.T) {
	r := source(120)
	for range 2000 {
		w, m := &wound.Wound{}, newModel(nil)
		var behind []step
		for range 20 {
			s := someStep(r, []string{"a", "b", ""})
			sameAnswer(t, w, m, s, behind)
			behind = append(behind, s)
			sameState(t, w, m, behind)
		}
	}
	for _, s := range eight() {
		w := &wound.Wound{}
		play(t, w, []step{on(), struck(), calls(), s, calls()}, "true", "false", "0", refused(s, 1), "1")
		play(t, w, []step{arm(fault(0, 1)), s, fuse(0, 2, 1), s, on(), s}, "", refused(s, 120), "", refused(s, 122), "false", refused(s, 122))
		play(t, w, []step{power(true), offline(true), s, offline(false), used(), pending(), loose("a"), crash(api.Fate{}), image(), safe(), flip("a", 0), cut("a", 0), wipe()}, "", "", refused(s, 121), "", "0", "0", "0 1", "1", "", "", "1", "1", "1")
	}
}

// A wound that is made with a drive in place is as New's.
func TestZeroValueWithDrive(t *testing.T) {
	w := &wound.Wound{Drive: loaded()}
	sameState(t, w, wound.New(loaded()), nil)
	fatalUnless(t, w.On(), "its power is off")
	play(t, w, []step{list(), fuse(0, 1, 1), appendTo("a", "xyz"), image()}, `["a" "b"] 0`, "", "122", `"a":"onex" "b":"twenty" `)
}

// Beside an error Read and List answer nothing, whatever refuses them.
func TestNothingBesideAnError(t *testing.T) {
	for _, state := range [][]step{{power(false)}, {offline(true)}, {fuse(0, 0, 9)}, {arm(fault(0, 1))}} {
		w := wound.New(loaded())
		makeAll(w, state...)
		b, err := w.Read("a")
		fatalUnless(t, len(b) == 0 && err != api.OK, "Read behind %v = %q, %d", state, b, err)
		w = wound.New(loaded())
		makeAll(w, state...)
		l, err := w.List()
		fatalUnless(t, len(l) == 0 && err != api.OK, "List behind %v = %q, %d", state, l, err)
	}
	l, err := wound.New(loaded()).List()
	fatalUnless(t, slices.Equal(l, []string{"a", "b"}) && err == api.OK, "List = %q, %d", l, err)
}

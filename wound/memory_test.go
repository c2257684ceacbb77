package wound_test

import (
	"math"
	"runtime"
	"slices"
	"testing"
	"time"
	"unsafe"

	"cairn/api"
	"cairn/drive"
	"cairn/wound"
)

// overwrite fills a list and the room behind it.
func overwrite[E any](l []E, with E) {
	l = l[:cap(l)]
	for i := range l {
		l[i] = with
	}
}

// roomy is the list with its owner's things behind it, and all of it.
func roomy[E any](l []E, behind E) (list, all []E) {
	all = append(slices.Clone(l), slices.Repeat([]E{behind}, 9)...)
	return all[:len(l)], all
}

// P12.2, P12.12: the plan is as it stood at Arm: its later changes do nothing, what stands behind it says nothing, and it stays as it was.
func TestPlansAreNotKept(t *testing.T) {
	plan, all := roomy([]api.Fault{fault(1, 1), fault(0, 0), fault(1, 2)}, fault(3, 1))
	w := wound.New(loaded())
	w.Arm(plan)
	play(t, w, []step{syncDir()}, "0")
	overwrite(all, fault(2, 1))
	play(t, w, []step{syncDir(), syncDir(), syncDir()}, "120", "0", "0")
	fatalUnless(t, slices.Equal(all, slices.Repeat([]api.Fault{fault(2, 1)}, 12)), "the plan became %v", all)
	w.Arm(plan)
	want := slices.Clone(all)
	makeAll(w, syncDir(), syncDir(), fuse(0, 4, 0), syncDir(), rest(true), arm())
	fatalUnless(t, slices.Equal(all, want), "the plan became %v", all)
}

// P12.12: one plan may be handed in to many wounds.
func TestOnePlanOfMany(t *testing.T) {
	plan := []api.Fault{fault(0, 1), fault(2, 1)}
	w, v := wound.New(loaded()), wound.New(loaded())
	w.Arm(plan)
	v.Arm(plan)
	play(t, w, []step{syncDir(), syncDir(), syncDir(), arm(), syncDir()}, "120", "0", "120", "", "0")
	play(t, v, []step{syncDir(), syncDir(), syncDir(), syncDir()}, "120", "0", "120", "0")
}

// P12.12: bytes that are handed in, and the room behind them, stay as they were, and the file hangs on them no more: at a fuse, too.
func TestBytesAreNotKept(t *testing.T) {
	for _, inside := range []int{-1, 2, 99} {
		w := wound.New(loaded())
		data, all := roomy([]byte("hello"), 'r')
		fatalUnless(t, w.Append("a", data) == api.OK, "Append is refused")
		w.Fuse(0, 1, inside)
		fatalUnless(t, w.Append("a", data) == api.ErrDown, "the fuse does not strike")
		makeAll(w, power(true), appendTo("a", "12"), flip("a", 0, 255, 255, 255, 255, 255, 255, 255, 255, 255, 255), cut("a", 9), appendTo("a", "345"))
		fatalUnless(t, string(all) == "hellorrrrrrrrr", "the bytes became %q", all)
		want := stateOf(w)
		overwrite(all, 'z')
		fatalUnless(t, stateOf(w) == want, "the drive became %s, not %s", stateOf(w), want)
	}
}

// P12.12: names that are handed in are not kept, whatever becomes of the call.
func TestTextsAreNotKept(t *testing.T) {
	var held [][]byte
	text := func(of string) string {
		b := []byte(of)
		held = append(held, b)
		return unsafe.String(&b[0], len(b))
	}
	w := wound.New(loaded())
	w.Create(text("c"))
	w.Rename(text("a"), text("d"))
	w.Arm([]api.Fault{fault(0, 1)})
	w.Create(text("e"))
	w.Fuse(0, 3, 1)
	w.Append(text("c"), []byte("xyz"))
	want := stateOf(w)
	for _, b := range held {
		overwrite(b, '!')
	}
	fatalUnless(t, stateOf(w) == want, "the drive became %s, not %s", stateOf(w), want)
	play(t, w, []step{image(), power(true), list()}, `"b":"twenty" "c":"x" "d":"one" `, "", `["b" "c" "d"] 0`)
}

// P12.12: answers are new memory: the drive stays as it is, whatever becomes of them, and they stay, whatever becomes of the drive.
func TestAnswersShareNoMemory(t *testing.T) {
	w := wound.New(loaded())
	before := stateOf(w)
	for range 2 {
		b, _ := w.Read("a")
		l, _ := w.List()
		fatalUnless(t, string(b) == "one" && slices.Equal(l, []string{"a", "b"}), "it answers %q, %q", b, l)
		overwrite(b, 'z')
		overwrite(l, "z")
	}
	fatalUnless(t, stateOf(w) == before, "the drive became %s", stateOf(w))
	b, _ := w.Read("a")
	l, _ := w.List()
	makeAll(w, flip("a", 0, 255), appendTo("a", "xyz"), remove("b"), create("aa"), fuse(0, 9, 9), appendTo("a", "xyz"), rest(true), wipe())
	fatalUnless(t, string(b) == "one" && slices.Equal(l, []string{"a", "b"}), "the answers became %q, %q", b, l)
}

// What is told changes nothing, so it can be asked as often as one likes.
func TestAskingChangesNothing(t *testing.T) {
	w := wound.New(loaded())
	makeAll(w, arm(fault(1, 1)), fuse(1, 1, 1), syncDir())
	before := wholeState(w)
	for range 9 {
		fatalUnless(t, wholeState(w) == before, "it became %s, not %s", wholeState(w), before)
	}
	play(t, w, []step{syncDir(), rest(false), struck(), struck(), syncDir(), struck(), syncDir(), struck(), on(), on()}, "120", "", "true", "true", "0", "true", "122", "true", "false", "false")
}

// W0: whatever is handed in, in whatever state, a call ends and does not panic.
func TestEveryCallEnds(t *testing.T) {
	r := source(126)
	numbers := []int{math.MinInt, math.MinInt + 1, -1, 0, 1, 2, 3, math.MaxInt - 1, math.MaxInt}
	for range 500 {
		w := pick(r, &wound.Wound{}, wound.New(&drive.Drive{}), wound.New(drive.New(9)), wound.New(loaded()), nil)
		for range 100 {
			n, at, in := pick(r, numbers...), pick(r, numbers...), pick(r, numbers...)
			s := pick(r, someCall(r, []string{"a", "", someText(r, 1030)}), someTurn(r), fuse(n, at, in), arm(fault(n, at), fault(at, in)), calls(), on(), struck())
			if w != nil && r.Intn(5) == 0 {
				s = pick(r, someHarm(r, []string{"a", ""}), used(), pending(), loose("a"), image(), safe())
			}
			s.do(w)
		}
	}
}

// W0: with a plan of many faults no call goes over all of them.
func TestGreatPlansEndSoon(t *testing.T) {
	const many = 500000
	began := time.Now()
	var plan []api.Fault
	for i := range many {
		plan = append(plan, fault(many-i, 1), fault(i, 3))
	}
	w := wound.New(loaded())
	w.Arm(plan)
	for i := range many {
		want := api.OK
		if i >= many/2 { // from there on the fault of kind 1 is the first of the two
			want = api.ErrIO
		}
		got := w.SyncDir()
		fatalUnless(t, got == want, "the call %d = %d, not %d", i, got, want)
	}
	if took := time.Since(began); took > 20*time.Second {
		t.Errorf("it took %v", took)
	}
}

// heap is how many bytes are held.
func heap() int {
	runtime.GC()
	var s runtime.MemStats
	runtime.ReadMemStats(&s)
	return int(s.HeapAlloc)
}

// A wound holds no more than its promises need: of a plan that is replaced nothing, of faults of one call the first, of bytes at a fuse what was put.
func TestWhatIsGoneIsLetGo(t *testing.T) {
	const much = 1 << 22
	before := heap()
	w := wound.New(drive.New(api.MaxRoom))
	var plan []api.Fault
	for i := range much {
		plan = append(plan, fault(i%7, 1))
	}
	w.Arm(plan)
	plan = nil
	fatalUnless(t, heap()-before < much, "%d bytes are held of a plan for seven calls", heap()-before)
	for i := range much / 8 {
		plan = append(plan, fault(i, 3))
	}
	w.Arm(plan)
	w.Arm(nil)
	plan = nil
	w.Create("a")
	w.Fuse(0, 1, 3)
	fatalUnless(t, w.Append("a", make([]byte, 8*much)) == api.ErrDown && w.Used() == 3, "the fuse does not strike")
	fatalUnless(t, heap()-before < much, "%d bytes are held", heap()-before)
	runtime.KeepAlive(w)
}

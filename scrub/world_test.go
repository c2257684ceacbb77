package scrub_test

import (
	"fmt"
	"math/rand"
	"slices"
	"testing"

	"cairn/api"
	"cairn/drop"
	"cairn/frame"
	"cairn/get"
	"cairn/heal"
	"cairn/opening"
	"cairn/put"
	"cairn/scrub"
)

// world is a store that was formatted, over drives some of which are at fault now and then, and a walk through it.
type world struct {
	r      *rand.Rand
	shape  api.Shape
	set    *api.Set
	walk   *scrub.Scrub
	w      []patient
	faulty []int
	puts   int
	fresh  bool // nothing has been done since a Heal that answered OK
	met    map[string]int
}

func newWorld(t *testing.T, r *rand.Rand, shape api.Shape, met map[string]int) *world {
	t.Helper()
	x := &world{r: r, shape: shape, met: met}
	x.set, x.w = opened(t, shape, 1<<20)
	x.walk = scrub.New(x.set)
	x.anew()
	return x
}

// anew chooses the drives that may be at fault from now on; all others are well.
func (x *world) anew() {
	x.faulty = x.r.Perm(len(x.w))[:pick(x.r, x.shape.M, x.r.Intn(x.shape.M+1))]
	for i := range x.w {
		if !slices.Contains(x.faulty, i) {
			x.well(i)
		}
	}
}

func (x *world) well(i int) {
	x.w[i].Offline(false)
	x.w[i].Arm(nil)
	x.w[i].Fuse(-1, 0, 0)
}

func (x *world) isOn() bool {
	return !slices.ContainsFunc(x.w, func(w patient) bool { return !w.On() })
}

// open opens the drives, behind a loss of power or without one, in some order.
func (x *world) open(t *testing.T) {
	t.Helper()
	off := !x.isOn()
	for _, w := range x.w {
		if off {
			w.Crash(someFate(x.r))
			w.Power(true)
		}
		w.Fuse(-1, 0, 0)
	}
	disks := disksOf(x.w)
	x.r.Shuffle(len(disks), func(i, j int) { disks[i], disks[j] = disks[j], disks[i] })
	set, err := opening.Open(disks)
	wantNumber(t, "Open", err, api.OK)
	x.set, x.walk = set, scrub.New(set)
}

// flip turns a bit of a file, if it does not make right again what was spoilt.
func flip(r *rand.Rand, w patient, name string) {
	b, err := w.Drive.Read(name)
	if err != api.OK {
		return
	}
	at, pattern := r.Intn(len(b)+1), []byte{1 << r.Intn(8)}
	w.Flip(name, at, pattern)
	b, _ = w.Drive.Read(name)
	if _, err := frame.Parse(b); err == api.OK {
		w.Flip(name, at, pattern)
	}
}

// misfortune is something that happens to a drive that is at fault.
func (x *world) misfortune(w patient) {
	r := x.r
	name := nameOf(pick(r, someKeys...))
	switch r.Intn(14) {
	case 0:
		w.Offline(true)
	case 1:
		w.Arm([]api.Fault{{At: r.Intn(20), Kind: api.FaultIO}, {At: r.Intn(20), Kind: api.FaultFull}})
	case 2:
		flip(r, w, name)
	case 3:
		w.Cut(name, r.Intn(30))
	case 4:
		w.Wipe()
	case 5, 6, 7:
		w.Offline(false)
	default:
		return
	}
	x.fresh = false
}

// serve makes the store serve again, if the power went.
func (x *world) serve(t *testing.T) {
	t.Helper()
	get.Look(x.set, nil, "none") // in it the power may go, too
	if !x.isOn() {
		x.open(t)
	}
}

// recover brings all drives back: each stands at a place and answers.
func (x *world) recover(t *testing.T) {
	t.Helper()
	for i := range x.w {
		x.well(i)
	}
	x.serve(t)
	strangers := func() (l []patient) {
		for _, w := range x.w {
			if !slices.Contains(x.set.Disks, api.Disk(w)) {
				l = append(l, w)
			}
		}
		return l
	}
	if len(strangers()) > 0 {
		x.open(t)
	}
	for _, w := range strangers() { // who comes back to a place that was taken is given another one as a blank drive
		w.Wipe()
	}
	if len(strangers()) > 0 {
		x.open(t)
	}
	fatalUnless(t, len(strangers()) == 0, "some drive stands nowhere")
}

// heal heals, half of the times when all drives are there; behind one that answered OK others may be at fault.
func (x *world) heal(t *testing.T) {
	t.Helper()
	if x.r.Intn(2) == 0 {
		x.recover(t)
	}
	_, err := heal.Heal(x.set, nil)
	if err != api.OK {
		return
	}
	for i := range x.w {
		x.well(i)
	}
	x.serve(t)
	x.anew()
	x.fresh = true
}

// isAtFault tells whether the drive at a place is one of those that may be, or there is none.
func (x *world) isAtFault(place int) bool {
	d := x.set.Disks[place]
	return d == nil || slices.ContainsFunc(x.faulty, func(i int) bool { return api.Disk(x.w[i]) == d })
}

// scrub goes on in the walk, and wants of what it finds what the page's premise makes of it.
func (x *world) scrub(t *testing.T) {
	t.Helper()
	var before []string
	for _, w := range x.w {
		before = append(before, w.chart())
	}
	was, place, seen := *x.set, x.walk.Place(), x.walk.Seen()
	finds, end, err := x.walk.Step(nil, 1+x.r.Intn(4))
	x.met[fmt.Sprint("number ", int(err))]++
	for i, w := range x.w {
		fatalUnless(t, w.chart() == before[i], "the drive %d was changed", i)
	}
	fatalUnless(t, x.set.Last == was.Last, "the set was changed")
	if err != api.OK {
		fatalUnless(t, err == api.ErrDown && len(finds) == 0 && !end, "%v, %v at fault: Step = %v, %v, %d", x.shape, x.faulty, finds, end, err)
		wantAt(t, x.walk, place, seen)
		return
	}
	for _, f := range finds {
		x.met[fmt.Sprint("kind ", f.Kind)]++
		fatalUnless(t, !x.fresh, "behind a Heal %v", f)
		fatalUnless(t, f.Kind != api.FoundUnknown && f.Kind != api.FoundWrong, "%v, %v at fault: %v", x.shape, x.faulty, f)
		fatalUnless(t, f.Kind == api.FoundMissing || f.Kind == api.FoundStray || x.isAtFault(f.Place), "%v, %v at fault: %v", x.shape, x.faulty, f)
	}
	if end {
		x.met["end"]++
	}
}

// step is something that happens, and some calls behind it.
func (x *world) step(t *testing.T) {
	t.Helper()
	r := x.r
	for _, i := range x.faulty {
		x.misfortune(x.w[i])
	}
	if r.Intn(4) == 0 {
		x.w[r.Intn(len(x.w))].Fuse(r.Intn(9), r.Intn(6), r.Intn(60))
		x.fresh = false
	}
	switch r.Intn(8) {
	case 0, 1, 2:
		x.puts++
		put.Put(x.set, nil, pick(r, someKeys...), []byte(fmt.Sprint("value ", x.puts)))
		x.fresh = false
	case 3, 4:
		drop.Delete(x.set, nil, pick(r, someKeys...))
		x.fresh = false
	case 5:
		x.heal(t)
	}
	x.scrub(t)
	x.scrub(t)
	if r.Intn(3) > 0 { // else it goes on in the dark
		x.serve(t)
	}
}

// W1, W3, W5: with M drives or fewer at fault since the last healing that went well, across losses of power and openings, a walk goes on as long as the power is on, can tell of every key, finds none wrong, and silent and spoilt ones at those drives alone; behind the healing it finds nothing; and it changes nothing.
func TestUnderThePremise(t *testing.T) {
	met := map[string]int{}
	r := source(299)
	for run := range 150 {
		x := newWorld(t, r, shapes()[run%len(shapes())], met)
		for range 60 {
			x.step(t)
		}
	}
	for _, what := range []string{"number 0", "number 122", "kind 1", "kind 2", "kind 4", "kind 5", "end"} {
		fatalUnless(t, met[what] > 30, "%s: %v", what, met)
	}
}

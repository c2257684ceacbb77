package store_test

import (
	"fmt"
	"math/rand"
	"reflect"
	"slices"
	"testing"

	"cairn/api"
	"cairn/drive"
	"cairn/frame"
	"cairn/get"
	"cairn/label"
	"cairn/store"
	"cairn/wound"
)

// absent is what a key may come to beside its values.
const absent = "-"

// world is a store that was created, over drives some of which are at fault now and then; p is what each key may come to.
type world struct {
	r      *rand.Rand
	shape  api.Shape
	store  *store.Store
	w      []*witness
	faulty []int
	p      map[string]map[string]bool
	puts   int
	given  map[api.Gen]bool // the generations that Puts have used
	stops  bool             // whether stops come, too
}

// witness is a drive that notes how often it was asked to take something away, and may stop its store when a round is over.
type witness struct {
	*wound.Wound
	removes int
	over    func()
}

func (w *witness) Remove(name string) api.Errno {
	w.removes++
	return w.Wound.Remove(name)
}

func (w *witness) Rest(off bool) {
	w.Wound.Rest(off)
	if w.over != nil {
		w.over()
	}
}

func (w *witness) chart() string { return patient{w.Wound}.chart() }

func newWorld(t *testing.T, r *rand.Rand, shape api.Shape) *world {
	t.Helper()
	x := &world{r: r, shape: shape, p: map[string]map[string]bool{}, given: map[api.Gen]bool{}}
	for range shape.K + shape.M {
		x.w = append(x.w, &witness{Wound: wound.New(drive.New(1 << 20))})
	}
	s, err := store.Create(disksOf(x.w), shape, theStore())
	wantText(t, "Create", err, "")
	x.store = s
	for _, key := range someKeys {
		x.p[key] = map[string]bool{absent: true}
	}
	x.anew()
	return x
}

// anew chooses the drives that may be at fault from now on; all others are well.
func (x *world) anew() {
	n := x.shape.K + x.shape.M
	x.faulty = x.r.Perm(n)[:pick(x.r, x.shape.M, x.r.Intn(x.shape.M+1))]
	for i := range x.w {
		if !slices.Contains(x.faulty, i) {
			x.well(i)
		}
	}
}

// well makes a drive answer.
func (x *world) well(i int) {
	x.w[i].Offline(false)
	x.w[i].Arm(nil)
}

// open opens the store, its drives in whatever order. No temporary file is left where all went well.
func (x *world) open(t *testing.T) {
	t.Helper()
	disks := disksOf(x.w)
	x.r.Shuffle(len(disks), func(i, j int) { disks[i], disks[j] = disks[j], disks[i] })
	s, err := store.Open(disks)
	wantText(t, fmt.Sprintf("%v, %v at fault: Open", x.shape, x.faulty), err, "")
	x.store = s
	for i, w := range x.w {
		if !slices.Contains(x.faulty, i) {
			_, err := w.Drive.Read("t")
			fatalUnless(t, err == api.ErrMissing, "a temporary file is left on the drive %d", i)
		}
	}
}

// lose is a loss of power, and the opening behind it.
func (x *world) lose(t *testing.T) {
	t.Helper()
	for _, w := range x.w {
		w.Crash(someFate(x.r))
		w.Fuse(-1, 0, 0)
		w.Power(true)
	}
	x.open(t)
}

// readings are what each way to read a file reads in bytes.
func readings(b []byte) []any {
	shard, err := frame.Parse(b)
	head, no := frame.ParseHead(b)
	l, none := label.Parse(b)
	return []any{shard, err == api.OK, head, no == api.OK, l, none == api.OK}
}

// flip turns bits of a file, if that is fair.
func flip(r *rand.Rand, w *witness, name string) {
	before, err := w.Drive.Read(name)
	if err != api.OK {
		return
	}
	at, pattern := r.Intn(len(before)+1), []byte{1 << r.Intn(8)}
	w.Flip(name, at, pattern)
	after, _ := w.Drive.Read(name)
	old, now := readings(before), readings(after)
	for i := 0; i < len(now); i += 2 {
		if now[i+1] == true && !reflect.DeepEqual(old[i:i+2], now[i:i+2]) {
			w.Flip(name, at, pattern) // what was spoilt is right again: that is no harm
		}
	}
}

// misfortune is something that happens to a drive that is at fault.
func (x *world) misfortune(w *witness) {
	r := x.r
	name := pick(r, nameOf(pick(r, someKeys...)), nameOf(pick(r, someKeys...)), "l")
	switch r.Intn(14) {
	case 0:
		w.Offline(true)
	case 1:
		w.Arm([]api.Fault{{At: r.Intn(20), Kind: api.FaultIO}, {At: r.Intn(20), Kind: api.FaultFull}})
	case 2:
		flip(r, w, name)
	case 3:
		w.Cut(name, r.Intn(30))
	case 4:
		w.Wipe()
	case 5, 6, 7:
		w.Offline(false)
	}
}

func (x *world) last(t *testing.T) api.Gen {
	t.Helper()
	set, is := x.store.Set()
	fatalUnless(t, is, "the store is closed")
	return set.Last
}

// isOn tells whether the power is on; a drive that stands nowhere is not told that it went.
func (x *world) isOn() bool {
	return !slices.ContainsFunc(x.w, func(w *witness) bool { return !w.On() })
}

// isMissing tells whether a place is empty.
func (x *world) isMissing() bool {
	set, _ := x.store.Set()
	return slices.Contains(set.Disks, nil)
}

// put puts something that was never put before, and keeps what is possible behind it.
func (x *world) put(t *testing.T, key string) api.Errno {
	t.Helper()
	x.puts++
	data := fmt.Sprint("value ", x.puts)
	p, last := x.p[key], x.last(t)
	err := store.Code(x.store.Put(key, []byte(data)))
	now := x.last(t)
	if now != last {
		fatalUnless(t, !x.given[now], "the generation %v is used again", now)
		x.given[now] = true
	}
	switch {
	case err == api.OK:
		fatalUnless(t, p[absent], "Put %q = OK, of %v", key, p)
		x.p[key] = map[string]bool{data: true}
	case err == api.ErrExists:
		fatalUnless(t, len(p) > 1 || !p[absent], "Put %q = ErrExists, of %v", key, p)
	case now != last: // an error of its writing
		p[data] = true
	}
	return err
}

// delete deletes, and keeps what is possible behind it.
func (x *world) delete(t *testing.T, key string) api.Errno {
	t.Helper()
	asked := 0
	for _, w := range x.w {
		asked -= w.removes
	}
	p := x.p[key]
	err := store.Code(x.store.Delete(key))
	for _, w := range x.w {
		asked += w.removes
	}
	switch {
	case err == api.OK:
		fatalUnless(t, len(p) > 1 || !p[absent], "Delete %q = OK, of %v", key, p)
		x.p[key] = map[string]bool{absent: true}
	case err == api.ErrNotFound:
		fatalUnless(t, p[absent], "Delete %q = ErrNotFound, of %v", key, p)
	case asked > 0: // an error of its round of taking away
		p[absent] = true
	}
	return err
}

// tells is what Get tells of a key; it wants that to be possible. False: the store serves no more.
func (x *world) tells(t *testing.T, key string) (string, bool) {
	t.Helper()
	b, err := x.store.Get(key)
	told := string(b)
	switch {
	case store.Lost(err):
		return "", false
	case store.Code(err) == api.ErrNotFound:
		told = absent
	default:
		wantText(t, fmt.Sprintf("%v, %v at fault: Get", x.shape, x.faulty), err, "")
	}
	fatalUnless(t, x.p[key][told], "%v, %v at fault: Get %q = %q, of %v", x.shape, x.faulty, key, told, x.p[key])
	return told, true
}

// list wants a list of what is possible. False: the store serves no more.
func (x *world) list(t *testing.T) bool {
	t.Helper()
	keys, err := x.store.List("")
	if store.Lost(err) {
		return false
	}
	wantText(t, "List", err, "")
	fatalUnless(t, slices.IsSorted(keys), "List = %q", keys)
	for key, p := range x.p {
		is := slices.Contains(keys, key)
		fatalUnless(t, p[absent] || is, "List = %q, and %q is one of %v", keys, key, p)
		fatalUnless(t, !is || len(p) > 1 || !p[absent], "List = %q, and %q is absent", keys, key)
	}
	return true
}

// settle keeps of each key what Get tells, behind a Heal that answered OK; and wants all n shards of it to stand, and no file of any other key.
func (x *world) settle(t *testing.T, did api.Healed) {
	t.Helper()
	set, _ := x.store.Set()
	have := 0
	for _, key := range someKeys {
		told, on := x.tells(t, key)
		fatalUnless(t, on, "the power is off")
		x.p[key] = map[string]bool{told: true}
		v, seen, err := get.Look(&set, nil, key)
		fatalUnless(t, err == api.OK, "Look = %d", err)
		kind := api.SeenNone
		if told != absent {
			kind = api.SeenShard
			have++
		}
		for place, s := range seen {
			fatalUnless(t, s.Kind == kind && s.Shard.Gen == v.Gen, "%q is %q, and the place %d shows %v", key, told, place, s)
		}
	}
	fatalUnless(t, did.Keys == have && did.Unknown == 0, "Heal = %v, and %d keys have a value", did, have)
}

// recover brings all drives back: each stands at a place and answers, and the store serves.
func (x *world) recover(t *testing.T) {
	t.Helper()
	for i, w := range x.w {
		x.well(i)
		w.Fuse(-1, 0, 0)
		w.over = nil
	}
	if !x.isOn() {
		x.lose(t)
	}
	if _, _, err := x.store.Stat("a"); x.isMissing() || store.Lost(err) {
		x.open(t)
	}
	set, _ := x.store.Set()
	for i, w := range x.w { // who has come back to a place that was taken is given another one as a blank drive
		if !slices.Contains(set.Disks, api.Disk(w)) {
			fatalUnless(t, slices.Contains(x.faulty, i), "the drive %d stands nowhere", i)
			w.Wipe()
		}
	}
	if x.isMissing() {
		x.open(t)
	}
	fatalUnless(t, !x.isMissing(), "some places are empty")
}

// heal heals, sometimes when all drives are there and answer; then it wants OK. It answers the number.
func (x *world) heal(t *testing.T) api.Errno {
	t.Helper()
	well := x.r.Intn(3) == 0
	if well {
		x.recover(t)
	}
	last := x.last(t)
	did, err := x.store.Heal()
	fatalUnless(t, x.last(t) == last, "Last was %v, and is %v", last, x.last(t))
	fatalUnless(t, !well || err == nil, "%v, %v at fault: Heal = %v, %v", x.shape, x.faulty, did, err)
	if err == nil {
		for i, w := range x.w { // no further misfortune until all is seen
			x.well(i)
			w.Fuse(-1, 0, 0)
			w.over = nil
		}
		switch _, _, err := x.store.Stat("a"); { // at its end the power may have gone, or a stop have come
		case !x.isOn():
			x.lose(t)
		case store.Lost(err):
			x.open(t)
		}
		fatalUnless(t, !x.isMissing(), "Heal = OK, and a drive is not there")
		x.settle(t, did)
		x.anew()
	}
	return store.Code(err)
}

// maybeStop lets a stop come at the end of some round.
func (x *world) maybeStop() {
	rounds := x.r.Intn(8)
	s := x.store
	x.w[0].over = func() {
		if rounds == 0 {
			s.Stop()
		}
		rounds--
	}
}

// step is something that happens, and an operation behind it.
func (x *world) step(t *testing.T, met map[string]int) {
	t.Helper()
	r := x.r
	for _, i := range x.faulty {
		x.misfortune(x.w[i])
	}
	if r.Intn(4) == 0 {
		x.w[r.Intn(len(x.w))].Fuse(r.Intn(9), r.Intn(6), r.Intn(60))
	}
	if x.stops && r.Intn(6) == 0 {
		x.maybeStop()
	}
	key := pick(r, someKeys...)
	switch r.Intn(7) {
	case 0, 1:
		err := x.put(t, key)
		met[fmt.Sprint("put ", int(err))]++
		fatalUnless(t, len(x.faulty) == x.shape.M || err != api.ErrQuorum, "%v, %v at fault: Put = %d", x.shape, x.faulty, err)
	case 2:
		err := x.delete(t, key)
		met[fmt.Sprint("delete ", int(err))]++
		fatalUnless(t, len(x.faulty) == x.shape.M || err != api.ErrQuorum, "%v, %v at fault: Delete = %d", x.shape, x.faulty, err)
	case 3, 4:
		met[fmt.Sprint("heal ", int(x.heal(t)))]++
	case 5:
		if x.isOn() && r.Intn(3) == 0 {
			for _, w := range x.w {
				w.Fuse(-1, 0, 0) // the power does not go again in an Open
			}
			wantText(t, "Close", x.store.Close(), "")
			x.open(t)
		}
	}
}

// W1 to W5 at the store's own face: with M drives or fewer that were at fault since the last healing that went well, across losses of power, stops and openings, the store keeps to what is possible; a healing that finds all drives goes well, and behind it M drives may fail anew.
func TestKeepsToWhatIsPossible(t *testing.T) {
	met := map[string]int{}
	r := source(244)
	for run := range 300 {
		x := newWorld(t, r, shapes()[run%len(shapes())])
		x.stops = run%3 == 0
		for range 60 {
			x.step(t, met)
			told, serves := x.tells(t, pick(r, someKeys...))
			serves = serves && x.list(t)
			switch {
			case !serves && !x.isOn():
				met["down"]++
				x.lose(t)
			case !serves:
				met["stopped"]++
				for _, w := range x.w {
					w.Fuse(-1, 0, 0)
				}
				x.open(t)
			case told != absent:
				met["value"]++
			}
		}
	}
	for _, what := range []string{"down", "stopped", "value", "put 0", "put 170", "put 190", "put 122", "put 160", "delete 0", "delete 170", "delete 200", "delete 160", "heal 0", "heal 230", "heal 122", "heal 160"} {
		fatalUnless(t, met[what] > 5, "%s: %v", what, met)
	}
}

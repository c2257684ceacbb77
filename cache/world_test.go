package cache_test

import (
	"fmt"
	"math/rand"
	"reflect"
	"slices"
	"strings"
	"testing"

	"cairn/api"
	"cairn/cache"
	"cairn/drive"
	"cairn/frame"
	"cairn/label"
	"cairn/store"
	"cairn/wound"
)

var someKeys = []string{"a", "a/b", "\xff"}

func someShapes() []api.Shape {
	return []api.Shape{{K: 1, M: 1, Block: 9}, small(), {K: 2, M: 2, Block: 3}, {K: 3, M: 1, Block: 2}, {K: 3, M: 2, Block: 4}}
}

// nameOf is the name of a key's file.
func nameOf(key string) string { return fmt.Sprintf("o%x", key) }

// someFate is what a loss of power keeps.
func someFate(r *rand.Rand) api.Fate {
	f := api.Fate{Dirs: make([]bool, r.Intn(10)), Cuts: make([]int, r.Intn(8))}
	for i := range f.Dirs {
		f.Dirs[i] = r.Intn(2) == 0
	}
	for i := range f.Cuts {
		f.Cuts[i] = pick(r, 0, 1, 30, 31, 99, -1)
	}
	return f
}

// someCall is a call of a front.
func someCall(r *rand.Rand, keys ...string) call {
	c := call{op: pick(r, "put", "put", "put", "get", "get", "get", "get", "delete", "delete", "heal"), key: pick(r, keys...)}
	if c.op == "put" {
		c.data = strings.Repeat(fmt.Sprint(r.Intn(1000), ","), r.Intn(4))
	}
	return c
}

// misfortune is something that happens to drives that are alike.
func misfortune(r *rand.Rand, l ...*patient) {
	name := pick(r, nameOf(pick(r, someKeys...)), "l")
	kind, a, b, c := r.Intn(24), r.Intn(20), r.Intn(40), r.Intn(9)
	for _, w := range l {
		switch kind {
		case 0:
			w.Offline(true)
		case 1:
			w.Arm([]api.Fault{{At: a, Kind: api.FaultIO}, {At: b, Kind: api.FaultFull}})
		case 2:
			w.Flip(name, b, []byte{1 << (a % 8)})
		case 3:
			w.Cut(name, b)
		case 4:
			w.Wipe()
		case 5:
			w.Fuse(c, a%6, b)
		case 6, 7, 8, 9, 10:
			w.Offline(false)
		}
	}
}

// reopened opens both stores anew, in some order, and puts fronts before them. False: they don't open.
func (p *pair[S]) reopened(t *testing.T, r *rand.Rand, room int) bool {
	t.Helper()
	order := r.Perm(len(p.mine))
	open := func(l []S) (*store.Store, error) {
		disks := make([]api.Disk, len(l))
		for i, x := range order {
			disks[i] = l[x]
		}
		return store.Open(disks)
	}
	mine, err := open(p.mine)
	theirs, no := open(p.theirs)
	fatalUnless(t, store.Code(err) == store.Code(no), "Open: %v, and %v", err, no)
	if err == nil {
		p.before(t, room, mine, theirs)
	}
	p.alike(t, "Open")
	return err == nil
}

// P28.6: whatever happens to the drives, and to the store, a front asks the store, holds and answers what the chapter says.
func TestRandomFronts(t *testing.T) {
	met := map[string]int{}
	for seed := range int64(600) {
		r := source(seed)
		shape := pick(r, someShapes()...)
		room := pick(r, 0, 3, 10, 30, api.MaxRoom)
		p := paired(t, shape, room, func() []*patient { return patients(shape.K+shape.M, 3000) })
		for range 60 {
			i := r.Intn(len(p.mine))
			misfortune(r, p.mine[i], p.theirs[i])
			switch r.Intn(25) {
			case 0:
				p.each(func(s *store.Store, _ []*patient) { s.Stop() })
			case 1:
				p.each(func(s *store.Store, _ []*patient) { s.Close() })
			case 2, 3, 4, 5, 6:
				fates := r.Int63()
				p.each(func(_ *store.Store, l []*patient) {
					fate := source(fates)
					for _, w := range l {
						if !w.On() {
							w.Crash(someFate(fate))
							w.Power(true)
						}
					}
				})
				if r.Intn(3) == 0 {
					p.reopened(t, r, room)
				}
			}
			c := someCall(r, append(someKeys, someKeys[0], "")...)
			a := p.check(t, c)
			met[fmt.Sprint(c.op, " ", int(a.number))]++
		}
	}
	for op, numbers := range map[string][]int{
		"put": {0, 90, 122, 160, 170, 190, 240}, "get": {0, 90, 122, 160, 170, 200, 240}, "delete": {0, 90, 122, 160, 170, 200, 240}, "heal": {0, 122, 160, 230, 240},
	} {
		for _, number := range numbers {
			fatalUnless(t, met[fmt.Sprint(op, " ", number)] > 5, "%s %d: %v", op, number, met)
		}
	}
}

// P28.9: without faults, losses of power, stops and closings a front answers each call as its store alone would; and what is held is told without any drive's being called.
func TestAnswersAsTheStoreAlone(t *testing.T) {
	r := source(287)
	keys := []string{"", "a", "b", "c", "a/b", strings.Repeat("k", 255), strings.Repeat("k", 256), "\x00"}
	told := map[int]int{}
	for range 100 {
		shape, room := pick(r, someShapes()...), pick(r, 0, 5, 20, 40, 300, api.MaxRoom)
		p := paired(t, shape, room, func() []*spy { return spies(shape.K + shape.M) })
		alone := p.hand.s
		stands := map[string]string{}
		hits := 0
		for range 100 {
			c := someCall(r, keys...)
			held := slices.Contains(p.front.Held(), c.key)
			got := ask(p.front, c)
			want := ask(frontOfNoRoom(t, alone), c)
			fatalUnless(t, got == want, "%+v = %+v, and the store alone %+v", c, got, want)
			asked := ""
			for _, l := range p.mine {
				asked += l.news()
			}
			if c.op == "get" && held {
				fatalUnless(t, asked == "", "%+v: a drive was called: %s", c, asked)
				hits++
			}
			switch { // and both are a map
			case c.op == "put" && got.number == api.OK:
				stands[c.key] = c.data
			case c.op == "delete" && got.number == api.OK:
				delete(stands, c.key)
			case c.op == "get":
				data, is := stands[c.key]
				fatalUnless(t, is == (got.number == api.OK) && got.data == data, "%+v = %+v, and %q was put", c, got, data)
			}
			for _, key := range p.front.Held() {
				_, is := stands[key]
				fatalUnless(t, is, "%q is held, and does not stand", key)
			}
		}
		told[room] += hits
		for i := range p.mine {
			fatalUnless(t, reflect.DeepEqual(p.mine[i].files, p.theirs[i].files), "the drives come to something else")
		}
	}
	fatalUnless(t, told[0] == 0 && told[5] > 0 && told[20] > 0 && told[40] > 0 && told[300] > 40 && told[api.MaxRoom] > 40, "out of the cache are told, by its room: %v", told)
}

// frontOfNoRoom is as good as the store alone: every key has a byte, so it holds nothing.
func frontOfNoRoom(t *testing.T, s *store.Store) *cache.Front {
	t.Helper()
	f, number := cache.Before(s, 0)
	fatalUnless(t, number == api.OK, "Before: %d", number)
	return f
}

// absent is what a key may come to beside its values.
const absent = "-"

// world is a front over drives some of which are at fault now and then; p is what each key may come to.
type world struct {
	r      *rand.Rand
	shape  api.Shape
	store  *store.Store
	front  *cache.Front
	w      []*witness
	faulty []int
	p      map[string]map[string]bool
	puts   int
	met    map[string]int
}

// witness is a drive that notes how often it was asked to take something away.
type witness struct {
	*wound.Wound
	removes int
}

func (w *witness) news() string { return fmt.Sprint(w.Calls()) }

func (w *witness) Remove(name string) api.Errno {
	w.removes++
	return w.Wound.Remove(name)
}

func newWorld(t *testing.T, r *rand.Rand, shape api.Shape, met map[string]int) *world {
	t.Helper()
	x := &world{r: r, shape: shape, p: map[string]map[string]bool{}, met: met}
	for range shape.K + shape.M {
		x.w = append(x.w, &witness{Wound: wound.New(drive.New(1 << 20))})
	}
	s, err := store.Create(disksOf(x.w), shape, theStore())
	fatalUnless(t, err == nil, "Create: %v", err)
	x.before(t, s)
	for _, key := range someKeys {
		x.p[key] = map[string]bool{absent: true}
	}
	x.anew()
	return x
}

// before puts a front before the store, which holds all or little.
func (x *world) before(t *testing.T, s *store.Store) {
	t.Helper()
	f, number := cache.Before(s, pick(x.r, 15, 25, api.MaxRoom, api.MaxRoom))
	fatalUnless(t, number == api.OK, "Before: %d", number)
	x.store, x.front = s, f
}

// anew chooses the drives that may be at fault from now on; all others are well.
func (x *world) anew() {
	x.faulty = x.r.Perm(len(x.w))[:pick(x.r, x.shape.M, x.r.Intn(x.shape.M+1))]
	for i := range x.w {
		if !slices.Contains(x.faulty, i) {
			x.well(i)
		}
	}
}

func (x *world) well(i int) {
	x.w[i].Offline(false)
	x.w[i].Arm(nil)
	x.w[i].Fuse(-1, 0, 0)
}

func (x *world) isOn() bool {
	return !slices.ContainsFunc(x.w, func(w *witness) bool { return !w.On() })
}

// open opens the drives, behind a loss of power or a stop, in some order.
func (x *world) open(t *testing.T) {
	t.Helper()
	off := !x.isOn()
	for _, w := range x.w {
		if off {
			w.Crash(someFate(x.r))
			w.Power(true)
		}
		w.Fuse(-1, 0, 0)
	}
	disks := disksOf(x.w)
	x.r.Shuffle(len(disks), func(i, j int) { disks[i], disks[j] = disks[j], disks[i] })
	s, err := store.Open(disks)
	fatalUnless(t, err == nil, "%v, %v at fault: Open: %v", x.shape, x.faulty, err)
	x.before(t, s)
}

// readings are what each way to read a file reads in bytes.
func readings(b []byte) []any {
	shard, err := frame.Parse(b)
	head, no := frame.ParseHead(b)
	l, none := label.Parse(b)
	return []any{shard, err == api.OK, head, no == api.OK, l, none == api.OK}
}

// flip turns a bit of a file, if that is fair.
func flip(r *rand.Rand, w *witness, name string) {
	before, err := w.Drive.Read(name)
	if err != api.OK {
		return
	}
	at, pattern := r.Intn(len(before)+1), []byte{1 << r.Intn(8)}
	w.Flip(name, at, pattern)
	after, _ := w.Drive.Read(name)
	old, now := readings(before), readings(after)
	for i := 0; i < len(now); i += 2 {
		if now[i+1] == true && !reflect.DeepEqual(old[i:i+2], now[i:i+2]) {
			w.Flip(name, at, pattern)
		}
	}
}

// misfortune is something that happens to a drive that is at fault.
func (x *world) misfortune(w *witness) {
	r := x.r
	name := pick(r, nameOf(pick(r, someKeys...)), "l")
	switch r.Intn(14) {
	case 0:
		w.Offline(true)
	case 1:
		w.Arm([]api.Fault{{At: r.Intn(20), Kind: api.FaultIO}, {At: r.Intn(20), Kind: api.FaultFull}})
	case 2:
		flip(r, w, name)
	case 3:
		w.Cut(name, r.Intn(30))
	case 4:
		w.Wipe()
	case 5, 6, 7:
		w.Offline(false)
	}
}

func (x *world) last(t *testing.T) api.Gen {
	t.Helper()
	set, is := x.store.Set()
	fatalUnless(t, is, "the store is closed")
	return set.Last
}

// note counts what was met.
func (x *world) note(op string, number api.Errno) api.Errno {
	x.met[fmt.Sprint(op, " ", int(number))]++
	return number
}

// put puts something that was never put before, and keeps what is possible behind it.
func (x *world) put(t *testing.T, key string) {
	t.Helper()
	x.puts++
	data := fmt.Sprint("value ", x.puts)
	p, last := x.p[key], x.last(t)
	err := x.note("put", x.front.Put(key, []byte(data)))
	switch {
	case err == api.OK:
		fatalUnless(t, p[absent], "Put %q = OK, of %v", key, p)
		x.p[key] = map[string]bool{data: true}
	case err == api.ErrExists:
		fatalUnless(t, len(p) > 1 || !p[absent], "Put %q = ErrExists, of %v", key, p)
	case x.last(t) != last: // an error of its writing
		p[data] = true
	}
}

// delete deletes, and keeps what is possible behind it.
func (x *world) delete(t *testing.T, key string) {
	t.Helper()
	asked := 0
	for _, w := range x.w {
		asked -= w.removes
	}
	p := x.p[key]
	err := x.note("delete", x.front.Delete(key))
	for _, w := range x.w {
		asked += w.removes
	}
	switch {
	case err == api.OK:
		fatalUnless(t, len(p) > 1 || !p[absent], "Delete %q = OK, of %v", key, p)
		x.p[key] = map[string]bool{absent: true}
	case err == api.ErrNotFound:
		fatalUnless(t, p[absent], "Delete %q = ErrNotFound, of %v", key, p)
	case asked > 0: // an error of its round of taking away
		p[absent] = true
	}
}

// tells wants what the front's Get tells of a key to be possible, and what it holds to be told without a drive's being called.
func (x *world) tells(t *testing.T, key string) string {
	t.Helper()
	calls := func() (l []int) {
		for _, w := range x.w {
			l = append(l, w.Calls())
		}
		return l
	}
	held, was := slices.Contains(x.front.Held(), key), calls()
	b, err := x.front.Get(key)
	told := string(b)
	switch x.note("get", err) {
	case api.OK:
	case api.ErrNotFound:
		told = absent
	default:
		fatalUnless(t, !held && (err == api.ErrDown || err == api.ErrStopped), "%v, %v at fault: Get %q = %d", x.shape, x.faulty, key, err)
		return ""
	}
	fatalUnless(t, x.p[key][told], "%v, %v at fault: Get %q = %q, of %v", x.shape, x.faulty, key, told, x.p[key])
	if held {
		fatalUnless(t, told != absent && slices.Equal(calls(), was), "Get %q = %q: a drive was called", key, told)
		x.met["held"]++
		if !x.isOn() {
			x.met["held, in the dark"]++
		}
		if len(x.p[key]) > 1 {
			x.met["held, one of several"]++
		}
	}
	return told
}

// recover brings all drives back: each stands at a place and answers, and the store serves.
func (x *world) recover(t *testing.T) {
	t.Helper()
	for i := range x.w {
		x.well(i)
	}
	x.serve(t)
	strangers := func() (l []*witness) {
		set, _ := x.store.Set()
		for _, w := range x.w {
			if !slices.Contains(set.Disks, api.Disk(w)) {
				l = append(l, w)
			}
		}
		return l
	}
	if len(strangers()) > 0 {
		x.open(t)
	}
	for _, w := range strangers() { // who comes back to a place that was taken is given another one as a blank drive
		w.Wipe()
	}
	if len(strangers()) > 0 {
		x.open(t)
	}
	fatalUnless(t, len(strangers()) == 0, "some drive stands nowhere")
}

// serve makes the store serve again, if it was stopped or the power went.
func (x *world) serve(t *testing.T) {
	t.Helper()
	_, _, err := x.store.Stat("none") // in it the power may go, too
	if !x.isOn() || store.Lost(err) {
		x.open(t)
	}
}

// heal heals, half of the times when all drives are there; where it answers OK it is settled what each key has come to, and others may be at fault.
func (x *world) heal(t *testing.T) {
	t.Helper()
	well := x.r.Intn(2) == 0
	if well {
		x.recover(t)
	}
	_, err := x.front.Heal()
	x.note("heal", err)
	fatalUnless(t, len(x.front.Held()) == 0, "behind a Heal %q are held", x.front.Held())
	fatalUnless(t, !well || err == api.OK, "%v, %v at fault: Heal = %d", x.shape, x.faulty, err)
	if err != api.OK {
		return
	}
	for i := range x.w { // no further misfortune until all is seen
		x.well(i)
	}
	x.serve(t)
	for _, key := range someKeys {
		x.p[key] = map[string]bool{x.tells(t, key): true}
	}
	x.anew()
}

// step is something that happens, and a call behind it.
func (x *world) step(t *testing.T) {
	t.Helper()
	r := x.r
	for _, i := range x.faulty {
		x.misfortune(x.w[i])
	}
	if r.Intn(4) == 0 {
		x.w[r.Intn(len(x.w))].Fuse(r.Intn(9), r.Intn(6), r.Intn(60))
	}
	if r.Intn(40) == 0 {
		x.store.Stop()
	}
	key := pick(r, someKeys...)
	switch r.Intn(8) {
	case 0, 1, 2:
		x.put(t, key)
	case 3, 4:
		x.delete(t, key)
	case 5:
		x.heal(t)
	}
	for range 3 {
		x.tells(t, pick(r, someKeys...))
	}
	for _, key := range x.front.Held() {
		x.tells(t, key)
	}
	if r.Intn(3) > 0 { // else it goes on in the dark, or stopped
		x.serve(t)
	}
}

// P28.9: with M drives or fewer at fault since the last healing that went well, across losses of power, stops and openings, what a front's Get tells is possible, whether it comes out of the cache or out of the store.
func TestNeverStale(t *testing.T) {
	met := map[string]int{}
	r := source(288)
	for run := range 400 {
		x := newWorld(t, r, someShapes()[run%len(someShapes())], met)
		for range 60 {
			x.step(t)
		}
	}
	for _, what := range []string{
		"held", "held, in the dark", "held, one of several", "put 0", "put 170", "put 190", "put 122", "put 160", "delete 0", "delete 170", "delete 200", "delete 122", "delete 160",
		"heal 0", "heal 230", "heal 122", "heal 160", "get 0", "get 122", "get 160", "get 200",
	} {
		fatalUnless(t, met[what] > 5, "%s: %v", what, met)
	}
}

package parts_test

import (
	"fmt"
	"maps"
	"math"
	"math/rand"
	"reflect"
	"slices"
	"strings"
	"testing"

	"cairn/api"
	"cairn/frame"
	"cairn/label"
	"cairn/parts"
	"cairn/store"
)

// absent is what a key, or a part, may come to beside its values.
const absent = "-"

// upload is one that was begun, and acknowledged.
type upload struct {
	key   string
	parts map[int]map[string]bool // what each may come to; absent, if a number is not there
	list  []api.Part              // with which it is finished, as soon as that was said once
	whole string                  // the bytes of the list's parts
	open  bool                    // nothing was said of it by which it could have ended
	gone  bool                    // it was given up, and that was acknowledged
	ended bool                    // it was given up or finished, and that was acknowledged
}

// world is uploads in a store over drives some of which are at fault now and then.
type world struct {
	r       *rand.Rand
	shape   api.Shape
	w       []*patient
	faulty  []int
	store   *store.Store
	up      *parts.Uploads
	uploads map[int]*upload
	objects map[string]map[string]bool // what each key may come to
	puts    int
	tried   int // the upload of which a Finish or an Abort was refused last in its midst
	met     map[string]int
}

var someKeys = []string{"a", "a/b", "\xff"}

func newWorld(t *testing.T, r *rand.Rand, shape api.Shape, met map[string]int) *world {
	t.Helper()
	x := &world{r: r, shape: shape, w: patients(shape.K+shape.M, 1<<20), uploads: map[int]*upload{}, objects: map[string]map[string]bool{}, met: met}
	s, err := store.Create(disksOf(x.w), shape, theStore())
	fatalUnless(t, err == nil, "Create: %v", err)
	x.over(s)
	for _, key := range someKeys {
		x.objects[key] = map[string]bool{absent: true}
	}
	x.anew()
	return x
}

func (x *world) over(s *store.Store) { x.store, x.up = s, parts.New(s) }

// anew chooses the drives that may be at fault from now on; all others are well.
func (x *world) anew() {
	x.faulty = x.r.Perm(len(x.w))[:pick(x.r, x.shape.M, x.r.Intn(x.shape.M+1))]
	for i := range x.w {
		if !slices.Contains(x.faulty, i) {
			x.well(i)
		}
	}
}

func (x *world) well(i int) {
	x.w[i].Offline(false)
	x.w[i].Arm(nil)
	x.w[i].Fuse(-1, 0, 0)
}

// someFate is what a loss of power keeps.
func someFate(r *rand.Rand) api.Fate {
	f := api.Fate{Dirs: make([]bool, r.Intn(10)), Cuts: make([]int, r.Intn(8))}
	for i := range f.Dirs {
		f.Dirs[i] = r.Intn(2) == 0
	}
	for i := range f.Cuts {
		f.Cuts[i] = pick(r, 0, 1, 30, 31, 99, -1)
	}
	return f
}

// open opens the drives in some order.
func (x *world) open(t *testing.T) {
	t.Helper()
	for _, w := range x.w {
		w.Fuse(-1, 0, 0)
	}
	disks := disksOf(x.w)
	x.r.Shuffle(len(disks), func(i, j int) { disks[i], disks[j] = disks[j], disks[i] })
	s, err := store.Open(disks)
	fatalUnless(t, err == nil, "%v, %v at fault: Open: %v", x.shape, x.faulty, err)
	x.over(s)
}

// isOn tells whether the power is on.
func (x *world) isOn() bool {
	return !slices.ContainsFunc(x.w, func(w *patient) bool { return !w.On() })
}

// serve makes the store serve again, if it was stopped or the power went.
func (x *world) serve(t *testing.T) {
	t.Helper()
	_, _, err := x.store.Stat("none") // in it the power may go, too
	if !x.isOn() {
		for _, w := range x.w {
			w.Crash(someFate(x.r))
			w.Power(true)
		}
		x.open(t)
	} else if store.Lost(err) {
		x.open(t)
	}
}

// readings are what each way to read a file reads in bytes.
func readings(b []byte) []any {
	shard, err := frame.Parse(b)
	head, no := frame.ParseHead(b)
	l, none := label.Parse(b)
	return []any{shard, err == api.OK, head, no == api.OK, l, none == api.OK}
}

// flip turns a bit of a file, if that is fair.
func flip(r *rand.Rand, w *patient, name string) {
	before, err := w.Drive.Read(name)
	if err != api.OK {
		return
	}
	at, pattern := r.Intn(len(before)+1), []byte{1 << r.Intn(8)}
	w.Flip(name, at, pattern)
	after, _ := w.Drive.Read(name)
	old, now := readings(before), readings(after)
	for i := 0; i < len(now); i += 2 {
		if now[i+1] == true && !reflect.DeepEqual(old[i:i+2], now[i:i+2]) {
			w.Flip(name, at, pattern)
		}
	}
}

// misfortune is something that happens to a drive that is at fault.
func (x *world) misfortune(w *patient) {
	r := x.r
	names, _ := w.Drive.List()
	name := pick(r, append(names, "l")...)
	switch r.Intn(14) {
	case 0:
		w.Offline(true)
	case 1:
		w.Arm([]api.Fault{{At: r.Intn(40), Kind: api.FaultIO}, {At: r.Intn(40), Kind: api.FaultFull}})
	case 2:
		flip(r, w, name)
	case 3:
		w.Cut(name, r.Intn(30))
	case 4:
		if r.Intn(4) == 0 {
			w.Wipe()
		}
	case 5, 6, 7:
		w.Offline(false)
	}
}

// isLost tells whether a number says that something may have been done that was not acknowledged.
func isLost(number api.Errno) bool {
	return slices.Contains([]api.Errno{api.ErrQuorum, api.ErrDown, api.ErrStopped, api.ErrDegraded, api.ErrNotFound}, number)
}

// note counts what was met.
func (x *world) note(op string, number api.Errno) api.Errno {
	x.met[fmt.Sprint(op, " ", int(number))]++
	return number
}

// some is one of the uploads, -1: there is none.
func (x *world) some() int {
	if u := x.uploads[x.tried]; u != nil && !u.ended && x.r.Intn(2) == 0 {
		return x.tried
	}
	var l []int
	for _, n := range slices.Sorted(maps.Keys(x.uploads)) { // in one order, so that every run of the test is the same one
		u := x.uploads[n]
		if u.open || !u.ended && x.r.Intn(2) == 0 || x.r.Intn(9) == 0 {
			l = append(l, n)
		}
	}
	if len(l) == 0 {
		return -1
	}
	return pick(x.r, l...)
}

func (x *world) begin(t *testing.T) {
	t.Helper()
	key := pick(x.r, someKeys...)
	n, number := x.up.Begin(key)
	x.note("begin", number)
	if number != api.OK {
		fatalUnless(t, isLost(number) || number == api.ErrExists, "Begin = %d", number) // the latter of a number that stands, and is not told by the List
		return
	}
	fatalUnless(t, x.uploads[n] == nil, "the number %d was given out before", n)
	x.uploads[n] = &upload{key: key, parts: map[int]map[string]bool{}, open: true}
}

func (x *world) put(t *testing.T, n int) {
	t.Helper()
	u := x.uploads[n]
	x.puts++
	p, data := 1+x.r.Intn(4), strings.Repeat(fmt.Sprint(x.puts, ","), 1+x.r.Intn(3))
	may := u.parts[p]
	if may == nil {
		may = map[string]bool{absent: true}
		u.parts[p] = may
	}
	got, number := x.up.Put(u.key, n, p, []byte(data))
	x.note("put", number)
	switch {
	case number == api.OK:
		fatalUnless(t, got == partOf(p, data) && (may[absent] || !u.open) && !u.gone, "Put %d %d = %v, of %v", n, p, got, may)
		u.parts[p] = map[string]bool{data: true}
	case number == api.ErrExists:
		fatalUnless(t, len(may) > 1 || !may[absent], "Put %d %d = ErrExists, of %v", n, p, may)
	case number == api.ErrUpload:
		fatalUnless(t, !u.open, "Put %d %d: no upload", n, p)
	default:
		fatalUnless(t, isLost(number) && number != api.ErrNotFound, "Put %d %d = %d", n, p, number)
		may[data] = true
	}
}

// listed wants of an upload that nothing could have ended that all of its parts, and nothing else, are told.
func (x *world) listed(t *testing.T, n int) {
	t.Helper()
	u := x.uploads[n]
	list, number := x.up.List(u.key, n)
	x.note("list", number)
	if number == api.ErrUpload || !u.open {
		fatalUnless(t, !u.open && (!u.gone || number != api.OK), "List %d = %v, %d", n, list, number)
		return
	}
	if number != api.OK {
		fatalUnless(t, isLost(number) && number != api.ErrNotFound && number != api.ErrQuorum, "List %d = %d", n, number)
		return
	}
	told := map[int]bool{}
	for _, p := range list {
		told[p.Number] = true
		is := false
		for data := range u.parts[p.Number] {
			is = is || data != absent && partOf(p.Number, data) == p
		}
		fatalUnless(t, is, "List %d = %v, of %v", n, list, u.parts)
	}
	for p, may := range u.parts {
		fatalUnless(t, told[p] || may[absent], "List %d = %v, of %v", n, list, u.parts)
	}
	open, number := x.up.Open(u.key)
	x.note("open", number)
	fatalUnless(t, number != api.OK || slices.Contains(open, n), "Open %q = %v, and %d is under way", u.key, open, n)
	for _, o := range open {
		u := x.uploads[o]
		fatalUnless(t, u == nil || !u.gone, "Open = %v, and %d was given up", open, o)
	}
}

// choose chooses the list with which the upload is finished: of parts that were acknowledged. False: there are none.
func (x *world) choose(u *upload) bool {
	if u.list != nil {
		return true
	}
	for p := range 5 {
		may := u.parts[p]
		if len(may) != 1 || may[absent] || u.list != nil && x.r.Intn(4) == 0 {
			continue
		}
		for data := range may {
			u.list = append(u.list, partOf(p, data))
			u.whole += data
		}
	}
	return u.list != nil
}

func (x *world) finish(t *testing.T, n int) {
	t.Helper()
	u := x.uploads[n]
	if !x.choose(u) {
		return
	}
	may := x.objects[u.key]
	number := x.note("finish", x.up.Finish(u.key, n, u.list))
	says := func(is bool) {
		t.Helper()
		fatalUnless(t, is, "%v, %v at fault: Finish %q %d of %q = %d, of %v", x.shape, x.faulty, u.key, n, u.whole, number, may)
	}
	switch {
	case number == api.OK:
		says((may[absent] || may[u.whole]) && !u.gone)
		x.objects[u.key] = map[string]bool{u.whole: true}
		u.open, u.ended = false, true
	case number == api.ErrExists:
		says(len(may) > 1 || !may[absent])
		u.open = u.open && !may[u.whole]
	case number == api.ErrUpload, number == api.ErrPart:
		says(!u.open)
	default:
		says(isLost(number))
		if !u.gone {
			may[u.whole] = true
			u.open = false
			x.tried = n
		}
	}
}

func (x *world) abort(t *testing.T, n int) {
	t.Helper()
	u := x.uploads[n]
	may := x.objects[u.key]
	number := x.note("abort", x.up.Abort(u.key, n))
	says := func(is bool) {
		t.Helper()
		fatalUnless(t, is, "%v, %v at fault: Abort %q %d of %q = %d, of %v", x.shape, x.faulty, u.key, n, u.whole, number, may)
	}
	switch number {
	case api.OK:
		if u.whole != "" {
			delete(may, u.whole)
		}
		says(len(may) > 0 && !u.gone)
		u.open, u.gone, u.ended = false, true, true
	case api.ErrExists:
		says(may[u.whole])
	case api.ErrUpload:
		says(!u.open)
	default:
		says(isLost(number))
		u.open = false
		x.tried = n
	}
}

func (x *world) delete(t *testing.T, key string) {
	t.Helper()
	may := x.objects[key]
	number := x.note("delete", x.up.Delete(key))
	switch number {
	case api.OK:
		fatalUnless(t, len(may) > 1 || !may[absent], "Delete %q = OK, of %v", key, may)
		x.objects[key] = map[string]bool{absent: true}
	case api.ErrNotFound:
		fatalUnless(t, may[absent], "Delete %q = ErrNotFound, of %v", key, may)
	default:
		fatalUnless(t, isLost(number), "Delete %q = %d", key, number)
		may[absent] = true
	}
}

// tells wants what is told of a key to be possible, and, while the store serves, an answer.
func (x *world) tells(t *testing.T, key string) string {
	t.Helper()
	may := x.objects[key]
	b, number := x.up.Read(key, 0, math.MaxInt)
	x.note("read", number)
	told := string(b)
	switch number {
	case api.OK:
	case api.ErrNotFound:
		told = absent
	default:
		fatalUnless(t, number == api.ErrDown || number == api.ErrStopped, "%v, %v at fault: Read %q = %d, of %v", x.shape, x.faulty, key, number, may)
		return ""
	}
	fatalUnless(t, may[told], "%v, %v at fault: Read %q = %q, of %v", x.shape, x.faulty, key, told, may)
	if size, number := x.up.Size(key); number == api.OK && len(may) == 1 {
		fatalUnless(t, may[told] && size == len(told), "Size %q = %d, of %v", key, size, may)
	}
	return told
}

// recover brings all drives back: each stands at a place and answers, and the store serves.
func (x *world) recover(t *testing.T) {
	t.Helper()
	for i := range x.w {
		x.well(i)
	}
	x.serve(t)
	stands := func() (is bool) {
		set, _ := x.store.Set()
		is = true
		for _, w := range x.w {
			if !slices.Contains(set.Disks, api.Disk(w)) {
				is = false
			}
		}
		return is
	}
	if !stands() {
		x.open(t)
	}
	set, _ := x.store.Set()
	for _, w := range x.w { // who comes back to a place that was taken is given another one as a blank drive
		if !slices.Contains(set.Disks, api.Disk(w)) {
			w.Wipe()
		}
	}
	if !stands() {
		x.open(t)
	}
	fatalUnless(t, stands(), "some drive stands nowhere")
}

// heal heals the store, all drives being there; then others may be at fault.
func (x *world) heal(t *testing.T) {
	t.Helper()
	x.recover(t)
	_, err := x.store.Heal()
	fatalUnless(t, err == nil, "%v, %v at fault: Heal: %v", x.shape, x.faulty, err)
	for _, key := range someKeys {
		x.objects[key] = map[string]bool{x.tells(t, key): true}
	}
	x.anew()
}

// step is something that happens, and a call behind it.
func (x *world) step(t *testing.T) {
	t.Helper()
	r := x.r
	for _, i := range x.faulty {
		x.misfortune(x.w[i])
	}
	if r.Intn(4) == 0 {
		x.w[r.Intn(len(x.w))].Fuse(r.Intn(pick(r, 5, 30)), r.Intn(6), r.Intn(60))
	}
	if r.Intn(40) == 0 {
		x.store.Stop()
	}
	n := x.some()
	what := r.Intn(16)
	if n < 0 {
		what = 0
	}
	switch what {
	case 0, 1:
		x.begin(t)
	case 2, 3, 4, 5:
		x.put(t, n)
	case 6, 7, 8, 9:
		if r.Intn(3) == 0 {
			x.w[r.Intn(len(x.w))].Fuse(3+r.Intn(12), r.Intn(6), r.Intn(60)) // in its writings, or in its tidying up
		}
		x.finish(t, n)
	case 10, 11:
		x.abort(t, n)
	case 12, 13:
		x.delete(t, pick(r, someKeys...))
	case 14:
		_, number := x.up.Sweep()
		x.note("sweep", number)
		fatalUnless(t, number == api.OK || isLost(number), "Sweep = %d", number)
	case 15:
		x.heal(t)
	}
	if n := x.some(); n >= 0 {
		x.listed(t, n)
	}
	x.tells(t, pick(r, someKeys...))
	x.serve(t)
}

// end gives all uploads up or finishes them, and sweeps: then own keys are just what P26.14 says.
func (x *world) end(t *testing.T) {
	t.Helper()
	x.heal(t)
	for i := range x.w {
		x.well(i)
	}
	for _, key := range someKeys {
		open, number := x.up.Open(key)
		fatalUnless(t, number == api.OK, "Open = %d", number)
		for _, n := range open {
			u := x.uploads[n]
			if u == nil || u.list == nil || x.r.Intn(2) == 0 {
				number := x.up.Abort(key, n)
				fatalUnless(t, number == api.OK || number == api.ErrExists, "Abort %d = %d", n, number)
				if number == api.ErrExists {
					fatalUnless(t, x.objects[key][u.whole], "Abort %d = %d, of %v", n, number, x.objects[key])
					number = x.up.Finish(key, n, u.list)
					fatalUnless(t, number == api.OK, "Finish %d = %d", n, number)
				}
				continue
			}
			x.finish(t, n)
			x.abort(t, n)
		}
	}
	x.store.Heal()
	_, number := x.up.Sweep()
	fatalUnless(t, number == api.OK, "Sweep = %d", number)
	x.tidy(t)
	away, number := x.up.Sweep()
	fatalUnless(t, number == api.OK && away == 0, "Sweep = %d, %d", away, number)
}

// tidy wants own keys to be just manifests, the parts that these list, and one number at the most.
func (x *world) tidy(t *testing.T) {
	t.Helper()
	var want []string
	for _, key := range someKeys {
		text, err := x.store.Get(manifestKey(key))
		if store.Code(err) == api.ErrNotFound {
			fatalUnless(t, x.tells(t, key) == absent, "%q has no manifest", key)
			continue
		}
		n, list := readByHand(string(text))
		fatalUnless(t, x.tells(t, key) == x.uploads[n].whole, "%q is not of the upload %d", key, n)
		want = append(want, manifestKey(key))
		for _, p := range list {
			want = append(want, partKey(n, p.Number))
		}
	}
	keys := slices.DeleteFunc(own(t, x.store), func(key string) bool { return key[1] == 'n' })
	numbers, _ := x.store.List("\x00n")
	slices.Sort(want)
	fatalUnless(t, slices.Equal(keys, want) && len(numbers) < 2, "the own keys are %q and %q, not %q", keys, numbers, want)
}

const seed = 261

// P26.12 to P26.14, at random: with M drives or fewer at fault since the last healing, across losses of power, stops and openings.
func TestWorld(t *testing.T) {
	t.Parallel()
	met := map[string]int{}
	r := source(seed)
	shapes := []api.Shape{{K: 1, M: 1, Block: 9}, small(), {K: 2, M: 2, Block: 3}, {K: 3, M: 1, Block: 2}, {K: 3, M: 2, Block: 4}}
	for run := range 400 {
		x := newWorld(t, r, shapes[run%len(shapes)], met)
		for range 60 {
			x.step(t)
		}
		x.end(t)
	}
	for _, what := range []string{
		"begin 0", "begin 170", "begin 122", "put 0", "put 170", "put 190", "put 122", "put 260", "list 0", "list 260", "finish 0", "finish 122", "finish 160", "finish 170",
		"finish 190", "finish 230", "finish 260", "abort 0", "abort 122", "abort 170", "abort 190", "abort 230", "abort 260", "delete 0", "delete 122", "delete 170", "delete 200",
		"sweep 0", "sweep 122", "sweep 230", "read 0", "read 200", "read 122",
	} {
		fatalUnless(t, met[what] > 5, "%s: %v", what, met)
	}
}

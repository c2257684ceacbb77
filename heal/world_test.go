package heal_test

import (
	"fmt"
	"maps"
	"math/rand"
	"reflect"
	"slices"
	"testing"

	"cairn/api"
	"cairn/drive"
	"cairn/drop"
	"cairn/frame"
	"cairn/get"
	"cairn/heal"
	"cairn/label"
	"cairn/listing"
	"cairn/opening"
	"cairn/put"
	"cairn/wound"
)

// absent is what a key may come to beside its values.
const absent = "-"

// world is a store that was formatted, over drives some of which are at fault now and then; p is what each key may come to.
type world struct {
	r      *rand.Rand
	shape  api.Shape
	set    *api.Set
	w      []*witness
	faulty []int
	p      map[string]map[string]bool
	puts   int
}

// witness is a drive that notes how often it was asked to take something away.
type witness struct {
	*wound.Wound
	removes int
}

func (w *witness) Remove(name string) api.Errno {
	w.removes++
	return w.Wound.Remove(name)
}

func newWorld(t *testing.T, r *rand.Rand, shape api.Shape) *world {
	t.Helper()
	x := &world{r: r, shape: shape, p: map[string]map[string]bool{}}
	for range shape.K + shape.M {
		x.w = append(x.w, &witness{Wound: wound.New(drive.New(1 << 20))})
	}
	wantNumber(t, "Format", opening.Format(x.disks(), shape, theStore()), api.OK)
	for _, key := range someKeys {
		x.p[key] = map[string]bool{absent: true}
	}
	x.anew()
	x.open(t)
	return x
}

// anew chooses the drives that may be at fault from now on; all others are well.
func (x *world) anew() {
	n := x.shape.K + x.shape.M
	x.faulty = x.r.Perm(n)[:pick(x.r, x.shape.M, x.r.Intn(x.shape.M+1))]
	for i := range x.w {
		if !slices.Contains(x.faulty, i) {
			x.well(i)
		}
	}
}

// well makes a drive answer.
func (x *world) well(i int) {
	x.w[i].Offline(false)
	x.w[i].Arm(nil)
}

func (x *world) disks() []api.Disk {
	var l []api.Disk
	for _, w := range x.w {
		l = append(l, w)
	}
	return l
}

// open opens the store, its drives in whatever order.
func (x *world) open(t *testing.T) {
	t.Helper()
	disks := x.disks()
	x.r.Shuffle(len(disks), func(i, j int) { disks[i], disks[j] = disks[j], disks[i] })
	set, err := opening.Open(disks)
	wantNumber(t, "Open", err, api.OK)
	x.set = set
}

// lose is a loss of power, and the opening behind it.
func (x *world) lose(t *testing.T) {
	t.Helper()
	for _, w := range x.w {
		w.Crash(someFate(x.r))
		w.Fuse(-1, 0, 0)
		w.Power(true)
	}
	x.open(t)
}

// readings are what each way to read a file reads in bytes.
func readings(b []byte) []any {
	shard, err := frame.Parse(b)
	head, no := frame.ParseHead(b)
	l, none := label.Parse(b)
	return []any{shard, err == api.OK, head, no == api.OK, l, none == api.OK}
}

// flip turns bits of a file, if that is fair.
func flip(r *rand.Rand, w *witness, name string) {
	before, err := w.Drive.Read(name)
	if err != api.OK {
		return
	}
	at, pattern := r.Intn(len(before)+1), []byte{1 << r.Intn(8)}
	w.Flip(name, at, pattern)
	after, _ := w.Drive.Read(name)
	old, now := readings(before), readings(after)
	for i := 0; i < len(now); i += 2 {
		if now[i+1] == true && !reflect.DeepEqual(old[i:i+2], now[i:i+2]) {
			w.Flip(name, at, pattern) // what was spoilt is right again: that is no harm
		}
	}
}

// misfortune is something that happens to a drive that is at fault.
func (x *world) misfortune(w *witness) {
	r := x.r
	name := pick(r, nameOf(pick(r, someKeys...)), nameOf(pick(r, someKeys...)), "l")
	switch r.Intn(14) {
	case 0:
		w.Offline(true)
	case 1:
		w.Arm([]api.Fault{{At: r.Intn(20), Kind: api.FaultIO}, {At: r.Intn(20), Kind: api.FaultFull}})
	case 2:
		flip(r, w, name)
	case 3:
		w.Cut(name, r.Intn(30))
	case 4:
		w.Wipe()
	case 5, 6, 7:
		w.Offline(false)
	}
}

// put puts something that was never put before, and keeps what is possible behind it.
func (x *world) put(t *testing.T, key string) api.Errno {
	t.Helper()
	x.puts++
	data := fmt.Sprint("value ", x.puts)
	p, last := x.p[key], x.set.Last
	err := put.Put(x.set, nil, key, []byte(data))
	switch {
	case err == api.OK:
		fatalUnless(t, p[absent], "Put %q = OK, of %v", key, p)
		x.p[key] = map[string]bool{data: true}
	case err == api.ErrExists:
		fatalUnless(t, len(p) > 1 || !p[absent], "Put %q = ErrExists, of %v", key, p)
	case x.set.Last != last: // an error of its writing
		p[data] = true
	}
	return err
}

// delete deletes, and keeps what is possible behind it.
func (x *world) delete(t *testing.T, key string) api.Errno {
	t.Helper()
	asked := 0
	for _, w := range x.w {
		asked -= w.removes
	}
	p := x.p[key]
	err := drop.Delete(x.set, nil, key)
	for _, w := range x.w {
		asked += w.removes
	}
	switch {
	case err == api.OK:
		fatalUnless(t, len(p) > 1 || !p[absent], "Delete %q = OK, of %v", key, p)
		x.p[key] = map[string]bool{absent: true}
	case err == api.ErrNotFound:
		fatalUnless(t, p[absent], "Delete %q = ErrNotFound, of %v", key, p)
	case asked > 0: // an error of its round of taking away
		p[absent] = true
	}
	return err
}

// tells is what Get tells of a key; it wants that to be possible. False: the power is off.
func (x *world) tells(t *testing.T, key string) (string, bool) {
	t.Helper()
	b, _, err := get.Get(x.set, nil, key)
	told := string(b)
	switch err {
	case api.ErrDown:
		return "", false
	case api.ErrNotFound:
		told = absent
	default:
		wantNumber(t, fmt.Sprintf("%v, %v at fault: Get", x.shape, x.faulty), err, api.OK)
	}
	fatalUnless(t, x.p[key][told], "%v, %v at fault: Get %q = %q, of %v", x.shape, x.faulty, key, told, x.p[key])
	return told, true
}

// list wants a list of what is possible. False: the power is off.
func (x *world) list(t *testing.T) bool {
	t.Helper()
	keys, err := listing.List(x.set, nil, "")
	if err == api.ErrDown {
		return false
	}
	wantNumber(t, "List", err, api.OK)
	for key, p := range x.p {
		is := slices.Contains(keys, key)
		fatalUnless(t, p[absent] || is, "List = %q, and %q is one of %v", keys, key, p)
		fatalUnless(t, !is || len(p) > 1 || !p[absent], "List = %q, and %q is absent", keys, key)
	}
	return true
}

// settle keeps of each key what Get tells, behind a Heal that answered OK; and wants all n shards of it to stand, and no file of any other key.
func (x *world) settle(t *testing.T, h api.Healed) {
	t.Helper()
	have := 0
	for _, key := range someKeys {
		told, on := x.tells(t, key)
		fatalUnless(t, on, "the power is off")
		x.p[key] = map[string]bool{told: true}
		v, seen, err := get.Look(x.set, nil, key)
		wantNumber(t, "Look", err, api.OK)
		kind := api.SeenNone
		if told != absent {
			kind = api.SeenShard
			have++
		}
		for place, s := range seen {
			fatalUnless(t, s.Kind == kind && s.Shard.Gen == v.Gen, "%q is %q, and the place %d shows %v", key, told, place, s)
		}
	}
	fatalUnless(t, h.Keys == have && h.Unknown == 0, "Heal = %v, and %d keys have a value", h, have)
	for i, w := range x.w {
		fatalUnless(t, w.Pending() == 0, "at the drive %d something is pending", i)
		for _, f := range w.Image() {
			key, is := keyOf(f.Name)
			fatalUnless(t, !is || !x.p[key][absent], "at the drive %d there is a file of %q", i, key)
		}
	}
}

// recover brings all drives back: each stands at a place and answers.
func (x *world) recover(t *testing.T) {
	t.Helper()
	for i, w := range x.w {
		x.well(i)
		w.Fuse(-1, 0, 0)
		if !w.On() {
			x.lose(t)
		}
	}
	if slices.Contains(x.set.Disks, nil) {
		x.open(t)
	}
	for i, w := range x.w { // who has come back to a place that was taken is given another one as a blank drive
		if !slices.Contains(x.set.Disks, api.Disk(w)) {
			fatalUnless(t, slices.Contains(x.faulty, i), "the drive %d stands nowhere", i)
			w.Wipe()
		}
	}
	if slices.Contains(x.set.Disks, nil) {
		x.open(t)
	}
	fatalUnless(t, !slices.Contains(x.set.Disks, nil), "some places are empty")
}

// heal heals, sometimes when all drives are there and answer; then it wants OK. It answers the number.
func (x *world) heal(t *testing.T) api.Errno {
	t.Helper()
	well := x.r.Intn(3) == 0
	if well {
		x.recover(t)
	}
	last := x.set.Last
	h, err := heal.Heal(x.set, nil)
	fatalUnless(t, x.set.Last == last, "Last was %v, and is %v", last, x.set.Last)
	fatalUnless(t, !well || err == api.OK, "%v, %v at fault: Heal = %v, %d", x.shape, x.faulty, h, err)
	if err == api.OK {
		for i, w := range x.w { // no further misfortune until all is seen
			x.well(i)
			w.Fuse(-1, 0, 0)
		}
		if !x.w[0].On() { // it went at the end
			x.lose(t)
		}
		fatalUnless(t, !slices.Contains(x.set.Disks, nil), "Heal = OK, and a drive is not there")
		x.settle(t, h)
		x.anew()
	}
	return err
}

// W1 to W5 of what layers 18 to 23 do: with M drives or fewer that were at fault since the last healing that went well, and across losses of power, the store keeps to what is possible; a healing that finds all drives goes well, and behind it M drives may fail anew.
func TestKeepsToWhatIsPossible(t *testing.T) {
	r := source(238)
	met := map[string]int{}
	for run := range 400 {
		shape := shapes()[run%len(shapes())]
		x := newWorld(t, r, shape)
		for range 60 {
			for _, i := range x.faulty {
				x.misfortune(x.w[i])
			}
			if r.Intn(4) == 0 {
				x.w[r.Intn(len(x.w))].Fuse(r.Intn(9), r.Intn(6), r.Intn(60))
			}
			key := pick(r, someKeys...)
			switch r.Intn(6) {
			case 0, 1:
				err := x.put(t, key)
				met[fmt.Sprint("put ", int(err))]++
				fatalUnless(t, len(x.faulty) == shape.M || err != api.ErrQuorum, "%v, %v at fault: Put = %d", shape, x.faulty, err)
			case 2:
				err := x.delete(t, key)
				met[fmt.Sprint("delete ", int(err))]++
				fatalUnless(t, len(x.faulty) == shape.M || err != api.ErrQuorum, "%v, %v at fault: Delete = %d", shape, x.faulty, err)
			case 3, 4:
				met[fmt.Sprint("heal ", int(x.heal(t)))]++
			}
			told, on := x.tells(t, pick(r, someKeys...))
			if !on || !x.list(t) {
				met["down"]++
				x.lose(t)
			}
			if on && told != absent {
				met["value"]++
			}
		}
	}
	for _, what := range []string{"down", "value", "put 0", "put 170", "put 190", "put 122", "delete 0", "delete 170", "delete 200", "heal 0", "heal 230", "heal 122"} {
		fatalUnless(t, met[what] > 50, "%s: %v", what, met)
	}
}

// W5: M drives fail, the store is healed, M others fail, again and again: nothing is lost.
func TestAgainAndAgain(t *testing.T) {
	r := source(239)
	for _, shape := range append(shapes(), api.Shape{K: 5, M: 5, Block: 3}, api.Shape{K: 6, M: 3, Block: 9}) {
		s, w := opened(t, shape)
		objects := map[string]string{}
		for i := range 12 {
			data := make([]byte, r.Intn(100))
			r.Read(data)
			objects[fmt.Sprint("key ", i)] = string(data)
			wantNumber(t, "Put", put.Put(s.set, nil, fmt.Sprint("key ", i), data), api.OK)
		}
		for range 25 {
			lost := r.Perm(len(w))[:shape.M]
			for _, i := range lost {
				w[i].Wipe()
			}
			s.wantHealed(t, fmt.Sprint(shape, lost), api.Healed{Written: 12 * shape.M, Keys: 12}, api.OK)
			for _, key := range slices.Sorted(maps.Keys(objects)) {
				wantGet(t, s.set, key, objects[key])
			}
		}
	}
}

// Without faults a healing changes nothing of what the store is as a map, and uses up no generation.
func TestAsAMap(t *testing.T) {
	r := source(240)
	for _, shape := range shapes() {
		s, _ := opened(t, shape)
		have := map[string]string{}
		for i := range 150 {
			key := fmt.Sprint(r.Intn(20))
			if _, is := have[key]; is {
				wantNumber(t, "Delete", drop.Delete(s.set, nil, key), api.OK)
				delete(have, key)
			} else {
				have[key] = fmt.Sprint("of ", i)
				last := s.set.Last
				wantNumber(t, "Put", put.Put(s.set, nil, key, []byte(have[key])), api.OK)
				fatalUnless(t, s.set.Last == api.Gen{Epoch: last.Epoch, Count: last.Count + 1}, "Last was %v, and is %v", last, s.set.Last)
			}
			s.wantHealed(t, "a map", api.Healed{Keys: len(have)}, api.OK)
			for key, data := range have {
				wantGet(t, s.set, key, data)
			}
		}
	}
}

// Example 5 of the page: what was put while a drive was offline is brought to it.
func TestTheExampleOfThePage(t *testing.T) {
	s, w := example(t)
	w[1].Offline(true)
	wantNumber(t, "Put", put.Put(s.set, nil, "b", []byte("x")), api.ErrQuorum)
	wantGet(t, s.set, "b", "x")
	w[1].Offline(false)
	s.wantHealed(t, "example 5", api.Healed{Written: 1, Keys: 2}, api.OK)
	keys, err := listing.List(s.set, nil, "")
	fatalUnless(t, slices.Equal(keys, []string{"a", "b"}) && err == api.OK, "List = %q, %d", keys, err)
	wantNumber(t, "Delete", drop.Delete(s.set, nil, "a"), api.OK)
	w[0].Wipe()
	wantGet(t, s.set, "b", "x")
	s.wantHealed(t, "example 7", api.Healed{Written: 1, Keys: 1}, api.OK)
}

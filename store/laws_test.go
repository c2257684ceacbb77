package store_test

import (
	"fmt"
	"maps"
	"math/rand"
	"slices"
	"strings"
	"testing"

	"cairn/api"
	"cairn/store"
)

// someKeys are the keys that random plays take.
var someKeys = []string{"a", "a/b", "b", "\xff"}

// someFate is what a loss of power keeps.
func someFate(r *rand.Rand) api.Fate {
	f := api.Fate{Dirs: make([]bool, r.Intn(10)), Cuts: make([]int, r.Intn(8))}
	for i := range f.Dirs {
		f.Dirs[i] = r.Intn(2) == 0
	}
	for i := range f.Cuts {
		f.Cuts[i] = pick(r, 0, 1, 30, 31, 99, -1)
	}
	return f
}

// someData is some bytes.
func someData(r *rand.Rand, most int) string {
	b := make([]byte, r.Intn(most))
	r.Read(b)
	return string(b)
}

// atlas is a store that nothing harms, and the map that it must be like.
type atlas struct {
	r     *rand.Rand
	shape api.Shape
	w     []patient
	store *store.Store
	have  map[string]string
	gens  map[string]api.Gen
	last  api.Gen // of the Puts that were answered OK
}

// below tells whether one generation is below another.
func below(a, b api.Gen) bool {
	return a.Epoch < b.Epoch || a.Epoch == b.Epoch && a.Count < b.Count
}

// open opens the drives in some order.
func (x *atlas) open(t *testing.T) {
	t.Helper()
	disks := disksOf(x.w)
	x.r.Shuffle(len(disks), func(i, j int) { disks[i], disks[j] = disks[j], disks[i] })
	s, err := store.Open(disks)
	wantText(t, "Open", err, "")
	set, is := s.Set()
	fatalUnless(t, is && slices.Equal(set.Disks, disksOf(x.w)), "the drives stand at other places")
	x.store = s
}

// lose lets the power go between two calls; then the store serves no more, and is opened anew.
func (x *atlas) lose(t *testing.T) {
	t.Helper()
	for _, w := range x.w {
		w.Power(false)
	}
	for _, op := range operations {
		got := ask(t, x.store, call{op: op, key: "a", a: 0, b: 1})
		fatalUnless(t, got.number == api.ErrDown && got.says == nothing, "%s = %v", op, got)
	}
	for _, w := range x.w {
		w.Crash(someFate(x.r))
		w.Power(true)
	}
	x.open(t)
}

// put puts, and wants what a map says.
func (x *atlas) put(t *testing.T, key, data string) {
	t.Helper()
	err := x.store.Put(key, []byte(data))
	if _, is := x.have[key]; is {
		wantText(t, "Put", err, "put "+key+": error 190")
		return
	}
	wantText(t, "Put", err, "")
	x.have[key] = data
	gen, size, err := x.store.Stat(key)
	fatalUnless(t, below(x.last, gen) && size == len(data) && err == nil, "Stat %q = %v, %d, %v; the one before was %v", key, gen, size, err, x.last)
	x.last, x.gens[key] = gen, gen
}

// read reads a key in all ways.
func (x *atlas) read(t *testing.T, key string) {
	t.Helper()
	off, n := x.r.Intn(60), x.r.Intn(60)
	data, is := x.have[key]
	if !is {
		wantGet(t, x.store, key, "", "get "+key+": error 200")
		wantStat(t, x.store, key, api.Gen{}, 0, "stat "+key+": error 200")
		b, err := x.store.Range(key, off, n)
		fatalUnless(t, len(b) == 0, "Range = %q", b)
		wantText(t, "Range", err, "range "+key+": error 200")
		return
	}
	wantGet(t, x.store, key, data, "")
	wantStat(t, x.store, key, x.gens[key], len(data), "")
	b, err := x.store.Range(key, off, n)
	if off > len(data) {
		fatalUnless(t, len(b) == 0, "Range = %q", b)
		wantText(t, "Range", err, "range "+key+": error 201")
		return
	}
	want := data[off:min(len(data), off+n)]
	fatalUnless(t, string(b) == want && err == nil, "Range %q %d %d = %q, %v, not %q", key, off, n, b, err, want)
}

// list lists in both ways.
func (x *atlas) list(t *testing.T, prefix string) {
	t.Helper()
	var want []string
	for key := range x.have {
		if strings.HasPrefix(key, prefix) {
			want = append(want, key)
		}
	}
	slices.Sort(want)
	keys, err := x.store.List(prefix)
	fatalUnless(t, slices.Equal(keys, want) && err == nil, "List %q = %q, %v, not %q", prefix, keys, err, want)
	limit := 1 + x.r.Intn(5)
	var all []string
	for q := (api.Query{Prefix: prefix, Delim: -1, Limit: limit}); ; {
		page, err := x.store.Page(q)
		fatalUnless(t, err == nil && len(page.Groups) == 0 && (len(page.Keys) == limit || !page.More), "Page %v = %v, %v", q, page, err)
		all = append(all, page.Keys...)
		if !page.More {
			break
		}
		q.After = page.Next
	}
	fatalUnless(t, slices.Equal(all, want), "the pages of %q = %q, not %q", prefix, all, want)
}

// step is one call, or a Close and an Open, or a loss of power.
func (x *atlas) step(t *testing.T) {
	t.Helper()
	r := x.r
	key := pick(r, "a", "b", "a/b", "a/c", "ab", "\x00", "\xff\xff", fmt.Sprint(r.Intn(20)))
	switch r.Intn(14) {
	case 0, 1, 2, 3:
		x.put(t, key, someData(r, pick(r, 1, 10, 100)))
	case 4, 5:
		err := x.store.Delete(key)
		if _, is := x.have[key]; is {
			wantText(t, "Delete", err, "")
			delete(x.have, key)
		} else {
			wantText(t, "Delete", err, "delete "+key+": error 200")
		}
	case 6, 7, 8:
		x.read(t, key)
	case 9:
		x.list(t, pick(r, "", "a", "a/", "1", "zz"))
	case 10:
		did, err := x.store.Heal()
		fatalUnless(t, did == api.Healed{Keys: len(x.have)} && err == nil, "Heal = %v, %v", did, err)
	case 11:
		wantText(t, "Close", x.store.Close(), "")
		x.open(t)
	case 12:
		x.store.Stop()
		wantText(t, "Put", x.store.Put(key, nil), "put "+key+": error 160")
		x.open(t)
	case 13:
		x.lose(t)
	}
}

// P24.11: the store is a map, through Close, Stop and Open, and losses of power between calls, in which whatever is not safe goes or stays.
func TestIsAMap(t *testing.T) {
	r := source(241)
	for _, shape := range append(shapes(), api.Shape{K: 5, M: 5, Block: 7}, api.Shape{K: 10, M: 2, Block: 65536}) {
		for range 6 {
			x := &atlas{r: r, shape: shape, w: patients(shape.K+shape.M, 1<<20), have: map[string]string{}, gens: map[string]api.Gen{}}
			s, err := store.Create(disksOf(x.w), shape, theStore())
			wantText(t, "Create", err, "")
			x.store = s
			for range 250 {
				x.step(t)
			}
			for key := range maps.Keys(x.have) {
				x.read(t, key)
			}
			x.list(t, "")
		}
	}
}

// P24.11: objects and keys at the edges, and just beyond them.
func TestEdges(t *testing.T) {
	long := strings.Repeat("\xfe", api.MaxKey)
	for _, x := range []struct {
		shape api.Shape
		most  int
	}{
		{api.Shape{K: 1, M: 1, Block: 1}, 4096},
		{small(), 32768},
		{api.Shape{K: 4, M: 2, Block: 64}, api.MaxObject},
		{api.Shape{K: 4, M: 2, Block: 65536}, api.MaxObject},
	} {
		w := patients(x.shape.K+x.shape.M, 1<<23)
		s, err := store.Create(disksOf(w), x.shape, theStore())
		wantText(t, "Create", err, "")
		data := make([]byte, x.most+1)
		source(242).Read(data)
		was := charts(w)
		wantText(t, "Put", s.Put(long, data), "put "+long+": error 3")
		wantText(t, "Put", s.Put(long+"k", data), "put "+long+"k: error 90")
		wantText(t, "Delete", s.Delete(long+"k"), "delete "+long+"k: error 90")
		fatalUnless(t, charts(w) == was, "a drive was called")
		wantText(t, "Put", s.Put(long, data[:x.most]), "")
		wantGet(t, s, long, string(data[:x.most]), "")
		wantStat(t, s, long, api.Gen{Epoch: 1, Count: 1}, x.most, "")
		b, err := s.Range(long, x.most-3, 9)
		fatalUnless(t, string(b) == string(data[x.most-3:x.most]) && err == nil, "Range = %q, %v", b, err)
		wantText(t, "Delete", s.Delete(long), "")
		wantText(t, "Put", s.Put(long, nil), "")
		wantGet(t, s, long, "", "")
		wantStat(t, s, long, api.Gen{Epoch: 1, Count: 2}, 0, "")
	}
}

// misfortune is something that happens to a drive: the same to each of the list, which are alike.
func misfortune(r *rand.Rand, l ...patient) {
	name := pick(r, nameOf(pick(r, someKeys...)), nameOf(pick(r, someKeys...)), "l")
	kind, a, b, c := r.Intn(20), r.Intn(20), r.Intn(40), r.Intn(9)
	for _, w := range l {
		switch kind {
		case 0:
			w.Offline(true)
		case 1:
			w.Arm([]api.Fault{{At: a, Kind: api.FaultIO}, {At: b, Kind: api.FaultFull}})
		case 2:
			w.Flip(name, b, []byte{1 << (a % 8)})
		case 3:
			w.Cut(name, b)
		case 4:
			w.Wipe()
		case 5:
			w.Fuse(c, a%6, b)
		case 6, 7, 8, 9:
			w.Offline(false)
		}
	}
}

// someCall is an operation.
func someCall(r *rand.Rand) call {
	c := call{op: pick(r, operations...), key: pick(r, append(someKeys, "")...)}
	switch c.op {
	case "put":
		c.data = someData(r, 40)
	case "range":
		c.a, c.b = r.Intn(30)-1, r.Intn(30)-1
	case "page":
		c.a, c.b, c.after = pick(r, -1, 47, 256), r.Intn(5), pick(r, "", "a", "b")
	}
	return c
}

// table is the chapter's table of errors, for each call those beside OK, ErrNil and ErrClosed.
func table() map[string][]api.Errno {
	reads := []api.Errno{api.ErrKey, api.ErrStopped, api.ErrDown, api.ErrNotFound, api.ErrQuorum}
	return map[string][]api.Errno{
		"create": {api.ErrShape, api.ErrArg, api.ErrDegraded, api.ErrDown, api.ErrQuorum, api.ErrDrives, api.ErrWorn},
		"open":   {api.ErrArg, api.ErrQuorum, api.ErrDrives, api.ErrWorn, api.ErrDown},
		"put":    {api.ErrKey, api.ErrLarge, api.ErrWorn, api.ErrStopped, api.ErrDown, api.ErrExists, api.ErrQuorum},
		"get":    reads,
		"stat":   reads,
		"delete": reads,
		"range":  append([]api.Errno{api.ErrArg, api.ErrRange}, reads...),
		"list":   {api.ErrStopped, api.ErrDown, api.ErrQuorum},
		"page":   {api.ErrArg, api.ErrStopped, api.ErrDown, api.ErrQuorum},
		"heal":   {api.ErrStopped, api.ErrDown, api.ErrDegraded},
		"close":  {},
	}
}

// wantInTable wants a number to be one of the chapter's table.
func wantInTable(t *testing.T, op string, number api.Errno) {
	t.Helper()
	l := append(table()[op], api.OK, api.ErrNil, api.ErrClosed)
	fatalUnless(t, slices.Contains(l, number), "%s = %d", op, number)
}

// play is a random play of a store and of one by hand over drives that are alike, to which the same happens. It answers a note of all that was answered, and counts what was met.
func play(t *testing.T, seed int64, met map[string]int) string {
	t.Helper()
	var log strings.Builder
	note := func(op string, number api.Errno, says string) {
		wantInTable(t, op, number)
		met[fmt.Sprint(op, " ", int(number))]++
		fmt.Fprintln(&log, op, int(number), says)
	}
	r := source(seed)
	shape := pick(r, shapes()...)
	n := shape.K + shape.M
	p, err := created(t, shape, func() []patient { return patients(n, 3000) })
	note("create", err, "")
	for range 60 {
		i := r.Intn(n)
		misfortune(r, p.mine[i], p.theirs[i])
		switch r.Intn(20) {
		case 0:
			p.store.Stop()
			p.hand.stop()
		case 1:
			note("close", p.check(t, call{op: "close"}).number, "")
		case 2, 3, 4:
			fates := r.Int63()
			for _, l := range [][]patient{p.mine, p.theirs} {
				fate := source(fates)
				for _, w := range l {
					if !w.On() {
						w.Crash(someFate(fate))
						w.Power(true)
					}
				}
			}
			p, err = p.reopened(t, append(r.Perm(n), -1)[r.Intn(2):])
			note("open", err, "")
		}
		c := someCall(r)
		got := p.check(t, c)
		note(c.op, got.number, got.says)
	}
	fmt.Fprint(&log, charts(p.mine))
	return log.String()
}

// P24.1, P24.6, P24.7, P24.12: whatever happens to the drives, each operation does and answers what the layer below does; and two stores over like drives, asked the same, answer the same.
func TestRandomPlays(t *testing.T) {
	met := map[string]int{}
	for seed := range int64(500) {
		log := play(t, seed, met)
		if seed%10 == 0 {
			fatalUnless(t, log == play(t, seed, met), "%d: it comes out otherwise", seed)
		}
	}
	for op, l := range table() {
		l = slices.DeleteFunc(append(l, api.OK, api.ErrNil, api.ErrClosed), func(number api.Errno) bool {
			return number == api.ErrWorn || number == api.ErrDrives || number == api.ErrLarge || slices.Contains([]string{"create", "open"}, op) && number != api.OK && number != api.ErrDown && number != api.ErrQuorum
		})
		if op == "create" {
			l = []api.Errno{api.OK}
		}
		for _, number := range l {
			fatalUnless(t, met[fmt.Sprint(op, " ", int(number))] > 5, "%s %d: %v", op, number, met)
		}
	}
}

// Behind a Stop and behind a Close what was acknowledged stands: neither is needed, and a store that is dropped without them is opened as well.
func TestNeitherStopNorCloseIsNeeded(t *testing.T) {
	r := source(243)
	for _, end := range []func(s *store.Store){
		func(*store.Store) {},
		func(s *store.Store) { s.Stop() },
		func(s *store.Store) { s.Close() },
		func(s *store.Store) { s.Stop(); s.Close() },
	} {
		for _, shape := range shapes() {
			w := patients(shape.K+shape.M, 1<<20)
			s, err := store.Create(disksOf(w), shape, theStore())
			wantText(t, "Create", err, "")
			wantText(t, "Put", s.Put("a", []byte("hello")), "")
			wantText(t, "Put", s.Put("b", []byte("gone")), "")
			wantText(t, "Delete", s.Delete("b"), "")
			end(s)
			for _, x := range w {
				x.Power(false)
				x.Crash(someFate(r))
				x.Power(true)
			}
			s, err = store.Open(disksOf(w))
			wantText(t, "Open", err, "")
			wantGet(t, s, "a", "hello", "")
			wantGet(t, s, "b", "", "get b: error 200")
		}
	}
}

// A Create takes away all that stood on the drives, and no generation of the store ahead of it is told.
func TestCreateBeginsAnew(t *testing.T) {
	w := patients(3, 1<<20)
	for range 4 {
		s, err := store.Create(disksOf(w), small(), theStore())
		wantText(t, "Create", err, "")
		keys, err := s.List("")
		fatalUnless(t, len(keys) == 0 && err == nil, "List = %q, %v", keys, err)
		wantText(t, "Put", s.Put("a", []byte("hello")), "")
		wantStat(t, s, "a", api.Gen{Epoch: 1, Count: 1}, 5, "")
		set, _ := s.Set()
		fatalUnless(t, set.Last == api.Gen{Epoch: 1, Count: 1} && set.Store == theStore() && set.Shape == small(), "Set = %v", set)
	}
}

package get_test

import (
	"fmt"
	"math/big"
	"math/rand"
	"slices"
	"strings"
	"testing"

	"cairn/api"
	"cairn/drive"
	"cairn/frame"
	"cairn/get"
	"cairn/stripe"
	"cairn/wound"
)

var (
	_ subject = (*spy)(nil)
	_ subject = patient{}
)

func fatalUnless(t *testing.T, is bool, says string, args ...any) {
	t.Helper()
	if !is {
		t.Fatalf(says, args...)
	}
}

func wantNumber(t *testing.T, says string, got, want api.Errno) {
	t.Helper()
	fatalUnless(t, got == want, "%s = %d, not %d", says, got, want)
}

func source(seed int64) *rand.Rand { return rand.New(rand.NewSource(seed)) }

// pick is one of the list.
func pick[E any](r *rand.Rand, l ...E) E { return l[r.Intn(len(l))] }

// every hands over all lists of n numbers below m.
func every(n, m int, each func([]int)) {
	l := make([]int, n)
	for {
		each(l)
		i := 0
		for i < n && l[i] == m-1 {
			l[i] = 0
			i++
		}
		if i == n {
			return
		}
		l[i]++
	}
}

// small is the shape of the chapter's examples.
func small() api.Shape { return api.Shape{K: 2, M: 1, Block: 4} }

// shapes are such as have few drives.
func shapes() []api.Shape {
	return []api.Shape{{K: 1, M: 1, Block: 1}, small(), {K: 2, M: 2, Block: 3}, {K: 3, M: 1, Block: 2}, {K: 3, M: 2, Block: 4}}
}

// theStore is the name of the store that the tests play with.
func theStore() [8]byte { return [8]byte{7, 7: 9} }

// What may be, in the words of the page, reckoned without bounds.

func number(n int) *big.Int { return big.NewInt(int64(n)) }

func from(least, n, greatest int) bool {
	return number(least).Cmp(number(n)) <= 0 && number(n).Cmp(number(greatest)) <= 0
}

func isShape(s api.Shape) bool {
	n := new(big.Int).Add(number(s.K), number(s.M))
	return from(1, s.M, s.K) && n.Cmp(number(255)) <= 0 && from(1, s.Block, 65536)
}

func isSet(set *api.Set) bool {
	return isShape(set.Shape) && len(set.Disks) == set.Shape.K+set.Shape.M && from(1, set.Last.Epoch, 4294967295) && from(0, set.Last.Count, 4294967295)
}

// nameOf is the name of a key's file.
func nameOf(key string) string { return "o" + fmt.Sprintf("%x", key) }

// shardsOf are the shards of an object.
func shardsOf(h api.Head, data []byte) []api.Shard {
	shards, err := stripe.Split(h, data)
	if err != 0 {
		panic(fmt.Sprint("no object: ", h, err))
	}
	return shards
}

// formOf is the bytes of a shard's file.
func formOf(s api.Shard) []byte {
	b, err := frame.Encode(s)
	if err != 0 {
		panic(fmt.Sprint("no shard: ", s.Head, err))
	}
	return b
}

// subject is a drive that tells all that became of it.
type subject interface {
	api.Disk
	chart() string
}

// spy is a drive that writes down what it is asked, and answers as it was told to.
type spy struct {
	bytes  []byte            // what Read tells, beside whatever number
	errs   map[int]api.Errno // of the calls of these numbers; of the others OK, or ErrMissing of a Read where there are no bytes
	struck int               // in the round of this number the power goes: 1, 2, ..
	over   func(round int)   // is told when a round is over
	calls  int
	rounds int
	asked  []string
}

func (s *spy) ask(says string, args ...any) api.Errno {
	s.asked = append(s.asked, fmt.Sprintf(says, args...))
	s.calls++
	return s.errs[s.calls-1]
}

func (s *spy) Create(name string) api.Errno              { return s.ask("Create %q", name) }
func (s *spy) Append(name string, data []byte) api.Errno { return s.ask("Append %q %x", name, data) }
func (s *spy) Sync(name string) api.Errno                { return s.ask("Sync %q", name) }
func (s *spy) Rename(old, to string) api.Errno           { return s.ask("Rename %q %q", old, to) }
func (s *spy) Remove(name string) api.Errno              { return s.ask("Remove %q", name) }
func (s *spy) SyncDir() api.Errno                        { return s.ask("SyncDir") }
func (s *spy) List() ([]string, api.Errno)               { return nil, s.ask("List") }

func (s *spy) Read(name string) ([]byte, api.Errno) {
	_, told := s.errs[s.calls]
	err := s.ask("Read %q", name)
	if !told && s.bytes == nil {
		err = 110
	}
	return s.bytes, err
}

func (s *spy) Struck() bool {
	s.rounds++
	s.asked = append(s.asked, "Struck")
	return s.rounds == s.struck
}

func (s *spy) Rest(off bool) {
	s.asked = append(s.asked, fmt.Sprint("Rest ", off))
	if s.over != nil {
		s.over(s.rounds)
	}
}

func (s *spy) chart() string { return strings.Join(s.asked, "; ") }

// patient is a wound, of which all can be told.
type patient struct{ *wound.Wound }

func (p patient) chart() string { return fmt.Sprint(p.files(), p.Calls(), p.Struck(), p.On()) }

// files is all that the drive within holds.
func (p patient) files() string {
	return fmt.Sprint(p.Image(), p.Safe(), p.Pending(), p.Used())
}

// scene is all that a reading is handed.
type scene struct {
	set   *api.Set
	disks []subject
	done  chan struct{}
	key   string
}

// sceneOf is the scene of a store over such drives, of which nothing is stopped.
func sceneOf(shape api.Shape, disks []subject, key string) scene {
	return scene{
		set:   &api.Set{Disks: disksOf(disks), Shape: shape, Store: theStore(), Last: api.Gen{Epoch: 3, Count: 5}},
		disks: disks,
		key:   key,
	}
}

// disksOf are the subjects as a caller hands them in.
func disksOf(l []subject) []api.Disk {
	disks := make([]api.Disk, len(l))
	for i, s := range l {
		if s != nil {
			disks[i] = s
		}
	}
	return disks
}

// answer is what a reading tells; what a call does not have is zero.
type answer struct {
	verdict api.Verdict
	seen    []api.Seen
	data    []byte
	gen     api.Gen
	err     api.Errno
}

// same tells whether two answers are alike; nil and empty lists are.
func same(a, b answer) bool { return a.err == b.err && fmt.Sprint(a) == fmt.Sprint(b) }

// reading is one of the three calls, as it is and in the chapter's words.
type reading struct {
	says   string
	call   func(s scene) answer
	byHand func(s scene) answer
}

func looking() reading {
	return reading{"Look", func(s scene) answer {
		v, seen, err := get.Look(s.set, s.done, s.key)
		return answer{verdict: v, seen: seen, err: err}
	}, scene.lookByHand}
}

func getting() reading {
	return reading{"Get", func(s scene) answer {
		data, gen, err := get.Get(s.set, s.done, s.key)
		return answer{data: data, gen: gen, err: err}
	}, scene.getByHand}
}

func ranging(off, n int) reading {
	return reading{fmt.Sprintf("Range %d %d", off, n), func(s scene) answer {
		data, err := get.Range(s.set, s.done, s.key, off, n)
		return answer{data: data, err: err}
	}, func(s scene) answer { return s.rangeByHand(off, n) }}
}

// readings are the three calls, with a Range that no object makes an error of.
func readings() []reading { return []reading{looking(), getting(), ranging(0, 3)} }

// The calls in the words of the chapter: the jobs of a round one behind the other, the last drive first.

func (s scene) stopped() bool {
	if len(s.done) > 0 {
		return true
	}
	select {
	case <-s.done:
		return true
	default:
		return false
	}
}

func (s scene) round(job func(i int, d api.Disk)) {
	for i, d := range slices.Backward(s.disks) {
		if d != nil {
			job(i, d)
		}
	}
	off := false
	for _, d := range s.disks {
		if d != nil && d.Struck() {
			off = true
		}
	}
	for _, d := range s.disks {
		if d != nil {
			d.Rest(off)
		}
	}
}

// refused is the number of what is wrong with the set or the key.
func (s scene) refused() api.Errno {
	switch {
	case s.set == nil:
		return 1
	case !isSet(s.set):
		return 2
	case !from(1, len(s.key), 255):
		return 90
	}
	return 0
}

func (s scene) lookByHand() answer {
	if err := s.refused(); err != 0 {
		return answer{err: err}
	}
	if s.stopped() {
		return answer{err: 160}
	}
	seen := make([]api.Seen, len(s.disks))
	for i := range seen {
		seen[i].Kind = 4
	}
	s.round(func(i int, d api.Disk) { seen[i] = s.seenByHand(i, d) })
	for _, x := range seen {
		if x.Kind == 4 && x.Err == 122 {
			return answer{err: 122}
		}
	}
	return answer{verdict: judgeByHand(s.set.Shape, seen), seen: seen}
}

// seenByHand is what a place shows.
func (s scene) seenByHand(i int, d api.Disk) api.Seen {
	b, err := d.Read(nameOf(s.key))
	if err == 110 {
		return api.Seen{Kind: 1}
	}
	if err != 0 {
		return api.Seen{Kind: 4, Err: err}
	}
	shard, no := frame.Parse(b)
	if no != 0 || shard.Store != s.set.Store || shard.Shape != s.set.Shape || shard.Key != s.key || shard.Index != i {
		return api.Seen{Kind: 3}
	}
	return api.Seen{Kind: 2, Shard: shard}
}

// writing is a generation and a Size.
type writing struct{ epoch, count, size int }

func newer(a, b writing) bool {
	if a.epoch != b.epoch {
		return a.epoch > b.epoch
	}
	if a.count != b.count {
		return a.count > b.count
	}
	return a.size > b.size
}

func judgeByHand(shape api.Shape, seen []api.Seen) api.Verdict {
	shown, hidden := map[writing][]int{}, 0
	for i, x := range seen {
		switch x.Kind {
		case 2:
			w := writing{x.Shard.Gen.Epoch, x.Shard.Gen.Count, x.Shard.Size}
			shown[w] = append(shown[w], i)
		case 3, 4:
			hidden++
		}
	}
	best, is := writing{}, false
	for w, places := range shown {
		if len(places) >= shape.K && (!is || newer(w, best)) {
			best, is = w, true
		}
	}
	switch {
	case is:
		return api.Verdict{Kind: 1, Gen: api.Gen{Epoch: best.epoch, Count: best.count}, Size: best.size, Places: shown[best]}
	case hidden <= shape.M:
		return api.Verdict{Kind: 2}
	}
	return api.Verdict{Kind: 3}
}

func (s scene) getByHand() answer {
	look := s.lookByHand()
	if look.err != 0 {
		return answer{err: look.err}
	}
	switch look.verdict.Kind {
	case 3:
		return answer{err: 170}
	case 2:
		return answer{err: 200}
	}
	shards := make([]api.Shard, len(s.disks))
	for _, i := range look.verdict.Places[:s.set.Shape.K] { // the least K are enough
		shards[i] = look.seen[i].Shard
	}
	data, err := stripe.Join(shards)
	if err != 0 || len(data) != look.verdict.Size {
		panic(fmt.Sprint("no object: ", look, err))
	}
	return answer{data: data, gen: look.verdict.Gen}
}

func (s scene) rangeByHand(off, n int) answer {
	if err := s.refused(); err != 0 {
		return answer{err: err}
	}
	if off < 0 || n < 0 {
		return answer{err: 2}
	}
	whole := s.getByHand()
	if whole.err != 0 {
		return answer{err: whole.err}
	}
	return piece(whole.data, off, n)
}

// piece is what Range tells of an object.
func piece(data []byte, off, n int) answer {
	if off > len(data) {
		return answer{err: 201}
	}
	var l []byte
	for i := off; i < len(data) && len(l) < n; i++ {
		l = append(l, data[i])
	}
	return answer{data: l}
}

// read makes the call, and wants the set as it was; with an error all else is zero.
func (s scene) read(t *testing.T, r reading) answer {
	t.Helper()
	if s.set == nil {
		return r.call(s)
	}
	was, disks := *s.set, slices.Clone(s.set.Disks)
	got := r.call(s)
	fatalUnless(t, slices.Equal(disks, s.set.Disks) && s.set.Shape == was.Shape && s.set.Store == was.Store && s.set.Last == was.Last, "%s: the set became %v", r.says, *s.set)
	fatalUnless(t, got.err == 0 || same(got, answer{err: got.err}), "%s with an error: %v", r.says, got)
	return got
}

// check holds a reading against the chapter's words, played on drives that are like its own: anew makes them. It tells what was answered.
func check(t *testing.T, r reading, anew func() scene) answer {
	t.Helper()
	mine, theirs := anew(), anew()
	want := r.byHand(theirs)
	got := mine.read(t, r)
	if !same(got, want) {
		t.Fatalf("%s of %q in %v = %v, not %v; the drives, when all was over:\n%s", r.says, mine.key, mine.set, got, want, charts(mine.disks))
	}
	for i, s := range mine.disks {
		if s != nil && s.chart() != theirs.disks[i].chart() {
			t.Fatalf("%s = %v: the drive %d comes to\n%s\nnot\n%s", r.says, got, i, s.chart(), theirs.disks[i].chart())
		}
	}
	return got
}

// checkAll holds each of these readings against the chapter's words, and tells Get's number.
func checkAll(t *testing.T, anew func() scene, also ...reading) api.Errno {
	t.Helper()
	for _, r := range also {
		check(t, r, anew)
	}
	check(t, looking(), anew)
	return check(t, getting(), anew).err
}

func charts(l []subject) string {
	var text []string
	for _, s := range l {
		if s == nil {
			text = append(text, "none")
		} else {
			text = append(text, s.chart())
		}
	}
	return strings.Join(text, "\n")
}

// spies are so many drives, each as the function says.
func spies(n int, anew func(i int) *spy) []subject {
	l := make([]subject, n)
	for i := range l {
		if s := anew(i); s != nil {
			l[i] = s
		}
	}
	return l
}

// plain are so many drives on which nothing stands and to which nothing happens.
func plain(n int) []subject { return spies(n, func(int) *spy { return &spy{} }) }

// ward is so many wounds over empty drives of that room, and a set of them.
func ward(shape api.Shape, room int) (*api.Set, []*wound.Wound) {
	set := &api.Set{Shape: shape, Store: theStore(), Last: api.Gen{Epoch: 1}}
	var w []*wound.Wound
	for range shape.K + shape.M {
		w = append(w, wound.New(drive.New(room)))
		set.Disks = append(set.Disks, w[len(w)-1])
	}
	return set, w
}

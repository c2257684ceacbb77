package drop_test

import (
	"fmt"
	"math/big"
	"math/rand"
	"slices"
	"strings"
	"testing"

	"cairn/api"
	"cairn/drive"
	"cairn/drop"
	"cairn/frame"
	"cairn/stripe"
	"cairn/wound"
)

var (
	_ subject = (*spy)(nil)
	_ subject = patient{}
)

func fatalUnless(t *testing.T, is bool, says string, args ...any) {
	t.Helper()
	if !is {
		t.Fatalf(says, args...)
	}
}

func wantNumber(t *testing.T, says string, got, want api.Errno) {
	t.Helper()
	fatalUnless(t, got == want, "%s = %d, not %d", says, got, want)
}

// wantMet wants each of these numbers to have been answered often, and no other one.
func wantMet(t *testing.T, met map[api.Errno]int, all ...api.Errno) {
	t.Helper()
	for _, err := range all {
		fatalUnless(t, met[err] > 100 && len(met) == len(all), "%d: %d times of %v", err, met[err], met)
	}
}

func source(seed int64) *rand.Rand { return rand.New(rand.NewSource(seed)) }

// pick is one of the list.
func pick[E any](r *rand.Rand, l ...E) E { return l[r.Intn(len(l))] }

// every hands over all lists of n numbers below m.
func every(n, m int, each func([]int)) {
	l := make([]int, n)
	for {
		each(l)
		i := 0
		for i < n && l[i] == m-1 {
			l[i] = 0
			i++
		}
		if i == n {
			return
		}
		l[i]++
	}
}

// small is the shape of the chapter's examples.
func small() api.Shape { return api.Shape{K: 2, M: 1, Block: 4} }

// shapes are such as have few drives.
func shapes() []api.Shape {
	return []api.Shape{{K: 1, M: 1, Block: 1}, small(), {K: 2, M: 2, Block: 3}, {K: 3, M: 1, Block: 2}, {K: 3, M: 2, Block: 4}}
}

// theStore is the name of the store that the tests play with.
func theStore() [8]byte { return [8]byte{7, 7: 9} }

// What may be, in the words of the page, reckoned without bounds.

func number(n int) *big.Int { return big.NewInt(int64(n)) }

func from(least, n, greatest int) bool {
	return number(least).Cmp(number(n)) <= 0 && number(n).Cmp(number(greatest)) <= 0
}

func isShape(s api.Shape) bool {
	n := new(big.Int).Add(number(s.K), number(s.M))
	return from(1, s.M, s.K) && n.Cmp(number(255)) <= 0 && from(1, s.Block, 65536)
}

func isSet(set *api.Set) bool {
	return isShape(set.Shape) && len(set.Disks) == set.Shape.K+set.Shape.M && from(1, set.Last.Epoch, 4294967295) && from(0, set.Last.Count, 4294967295)
}

// nameOf is the name of a key's file.
func nameOf(key string) string { return "o" + fmt.Sprintf("%x", key) }

// shardsOf are the shards of an object.
func shardsOf(h api.Head, data []byte) []api.Shard {
	shards, err := stripe.Split(h, data)
	if err != 0 {
		panic(fmt.Sprint("no object: ", h, err))
	}
	return shards
}

// formOf is the bytes of a shard's file.
func formOf(s api.Shard) []byte {
	b, err := frame.Encode(s)
	if err != 0 {
		panic(fmt.Sprint("no shard: ", s.Head, err))
	}
	return b
}

// subject is a drive that tells all that became of it.
type subject interface {
	api.Disk
	chart() string
}

// spy is a drive that writes down what it is asked, and answers as it was told to.
type spy struct {
	bytes  []byte            // what Read tells, beside whatever number; nil: there is no file
	errs   map[int]api.Errno // of the calls of these numbers; of the others OK, or ErrMissing of a Read or a Remove where there is no file
	struck int               // in the round of this number the power goes: 1, 2, ..
	over   func(round int)   // is told when a round is over
	calls  int
	rounds int
	asked  []string
}

func (s *spy) ask(missing api.Errno, says string, args ...any) api.Errno {
	s.asked = append(s.asked, fmt.Sprintf(says, args...))
	err, told := s.errs[s.calls]
	s.calls++
	if !told && s.bytes == nil {
		return missing
	}
	return err
}

func (s *spy) Create(name string) api.Errno              { return s.ask(0, "Create %q", name) }
func (s *spy) Append(name string, data []byte) api.Errno { return s.ask(0, "Append %q %x", name, data) }
func (s *spy) Sync(name string) api.Errno                { return s.ask(0, "Sync %q", name) }
func (s *spy) Rename(old, to string) api.Errno           { return s.ask(0, "Rename %q %q", old, to) }
func (s *spy) SyncDir() api.Errno                        { return s.ask(0, "SyncDir") }
func (s *spy) List() ([]string, api.Errno)               { return nil, s.ask(0, "List") }
func (s *spy) Read(name string) ([]byte, api.Errno)      { return s.bytes, s.ask(110, "Read %q", name) }

func (s *spy) Remove(name string) api.Errno {
	err := s.ask(110, "Remove %q", name)
	if err == 0 {
		s.bytes = nil
	}
	return err
}

func (s *spy) Struck() bool {
	s.rounds++
	s.asked = append(s.asked, "Struck")
	return s.rounds == s.struck
}

func (s *spy) Rest(off bool) {
	s.asked = append(s.asked, fmt.Sprint("Rest ", off))
	if s.over != nil {
		s.over(s.rounds)
	}
}

func (s *spy) chart() string { return strings.Join(s.asked, "; ") }

// fail makes the call of this number answer so.
func (s *spy) fail(call int, err api.Errno) {
	if s.errs == nil {
		s.errs = map[int]api.Errno{}
	}
	s.errs[call] = err
}

// What a drive is asked in the first round, and in both.
const (
	asksOnce  = `Read "o61"; Struck; Rest false`
	asksTwice = asksOnce + `; Remove "o61"; SyncDir; Struck; Rest false`
)

// patient is a wound, of which all can be told.
type patient struct{ *wound.Wound }

func (p patient) chart() string { return fmt.Sprint(p.files(), p.Calls(), p.Struck(), p.On()) }

// files is all that the drive within holds.
func (p patient) files() string {
	return fmt.Sprint(p.Image(), p.Safe(), p.Pending(), p.Used())
}

// scene is all that a Delete is handed.
type scene struct {
	set   *api.Set
	disks []subject
	done  chan struct{}
	key   string
}

// sceneOf is the scene of a store over such drives, of which nothing is stopped.
func sceneOf(shape api.Shape, disks []subject, key string) scene {
	return scene{
		set:   &api.Set{Disks: disksOf(disks), Shape: shape, Store: theStore(), Last: api.Gen{Epoch: 3, Count: 5}},
		disks: disks,
		key:   key,
	}
}

// disksOf are the subjects as a caller hands them in.
func disksOf(l []subject) []api.Disk {
	disks := make([]api.Disk, len(l))
	for i, s := range l {
		if s != nil {
			disks[i] = s
		}
	}
	return disks
}

// Delete in the words of the chapter: the jobs of a round one behind the other, the last drive first.

func (s scene) stopped() bool {
	if len(s.done) > 0 {
		return true
	}
	select {
	case <-s.done:
		return true
	default:
		return false
	}
}

func (s scene) round(job func(i int, d api.Disk)) {
	for i, d := range slices.Backward(s.disks) {
		if d != nil {
			job(i, d)
		}
	}
	off := false
	for _, d := range s.disks {
		if d != nil && d.Struck() {
			off = true
		}
	}
	for _, d := range s.disks {
		if d != nil {
			d.Rest(off)
		}
	}
}

func (s scene) deleteByHand() api.Errno {
	switch {
	case s.set == nil:
		return 1
	case !isSet(s.set):
		return 2
	case !from(1, len(s.key), 255):
		return 90
	}
	if err := s.lookByHand(); err != 0 {
		return err
	}
	if s.stopped() {
		return 160
	}
	well, down := 0, false
	s.round(func(_ int, d api.Disk) {
		err := d.Remove(nameOf(s.key))
		if err == 0 || err == 110 {
			err = d.SyncDir()
		}
		switch err {
		case 0:
			well++
		case 122:
			down = true
		}
	})
	switch {
	case down:
		return 122
	case well >= s.set.Shape.K+1:
		return 0
	}
	return 170
}

// lookByHand is OK, if the first round comes to a value.
func (s scene) lookByHand() api.Errno {
	if s.stopped() {
		return 160
	}
	type writing struct{ epoch, count, size int }
	shown, hidden, down := map[writing]int{}, 0, false
	s.round(func(i int, d api.Disk) {
		b, err := d.Read(nameOf(s.key))
		shard, no := frame.Parse(b)
		switch {
		case err == 110:
		case err == 122:
			down = true
		case err != 0, no != 0, shard.Store != s.set.Store, shard.Shape != s.set.Shape, shard.Key != s.key, shard.Index != i:
			hidden++
		default:
			shown[writing{shard.Gen.Epoch, shard.Gen.Count, shard.Size}]++
		}
	})
	if down {
		return 122
	}
	for _, d := range s.disks {
		if d == nil {
			hidden++
		}
	}
	for _, n := range shown {
		if n >= s.set.Shape.K {
			return 0
		}
	}
	if hidden > s.set.Shape.M {
		return 170
	}
	return 200
}

// delete calls Delete, and wants the set as it was.
func (s scene) delete(t *testing.T) api.Errno {
	t.Helper()
	if s.set == nil {
		return drop.Delete(nil, s.done, s.key)
	}
	was, disks := *s.set, slices.Clone(s.set.Disks)
	err := drop.Delete(s.set, s.done, s.key)
	fatalUnless(t, slices.Equal(disks, s.set.Disks) && s.set.Shape == was.Shape && s.set.Store == was.Store && s.set.Last == was.Last, "the set was %v, and is %v", was, *s.set)
	return err
}

// check holds Delete against the chapter's words, played on drives that are like its own: anew makes them. It answers Delete's number.
func check(t *testing.T, anew func() scene) api.Errno {
	t.Helper()
	mine, theirs := anew(), anew()
	want := theirs.deleteByHand()
	err := mine.delete(t)
	if err != want {
		t.Fatalf("Delete(%v, %q) = %d, not %d; the drives by hand, when all was over:\n%s", mine.set, mine.key, err, want, charts(theirs.disks))
	}
	for i, s := range mine.disks {
		if s != nil && s.chart() != theirs.disks[i].chart() {
			t.Fatalf("Delete = %d: the drive %d comes to\n%s\nnot\n%s", err, i, s.chart(), theirs.disks[i].chart())
		}
	}
	return err
}

func charts(l []subject) string {
	var text []string
	for _, s := range l {
		if s == nil {
			text = append(text, "none")
		} else {
			text = append(text, s.chart())
		}
	}
	return strings.Join(text, "\n")
}

// spies are so many drives, each as the function says.
func spies(n int, anew func(i int) *spy) []subject {
	l := make([]subject, n)
	for i := range l {
		if s := anew(i); s != nil {
			l[i] = s
		}
	}
	return l
}

// plain are so many drives on which nothing stands and to which nothing happens.
func plain(n int) []subject { return spies(n, func(int) *spy { return &spy{} }) }

// ward is so many wounds over empty drives of that room, and a set of them.
func ward(shape api.Shape, room int) (*api.Set, []*wound.Wound) {
	set := &api.Set{Shape: shape, Store: theStore(), Last: api.Gen{Epoch: 1}}
	var w []*wound.Wound
	for range shape.K + shape.M {
		w = append(w, wound.New(drive.New(room)))
		set.Disks = append(set.Disks, w[len(w)-1])
	}
	return set, w
}

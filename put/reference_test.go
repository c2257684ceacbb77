package put_test

import (
	"fmt"
	"math/big"
	"math/rand"
	"slices"
	"strings"
	"testing"

	"cairn/api"
	"cairn/drive"
	"cairn/frame"
	"cairn/put"
	"cairn/stripe"
	"cairn/wound"
)

var (
	_ subject = (*spy)(nil)
	_ subject = patient{}
)

func fatalUnless(t *testing.T, is bool, says string, args ...any) {
	t.Helper()
	if !is {
		t.Fatalf(says, args...)
	}
}

func wantNumber(t *testing.T, says string, got, want api.Errno) {
	t.Helper()
	fatalUnless(t, got == want, "%s = %d, not %d", says, got, want)
}

func source(seed int64) *rand.Rand { return rand.New(rand.NewSource(seed)) }

// pick is one of the list.
func pick[E any](r *rand.Rand, l ...E) E { return l[r.Intn(len(l))] }

// small is the shape of the chapter's examples.
func small() api.Shape { return api.Shape{K: 2, M: 1, Block: 4} }

// What may be, in the words of the page, reckoned without bounds.

func whole(n int) *big.Int { return big.NewInt(int64(n)) }

func from(least, n, greatest int) bool {
	return whole(least).Cmp(whole(n)) <= 0 && whole(n).Cmp(whole(greatest)) <= 0
}

func isShape(s api.Shape) bool {
	n := new(big.Int).Add(whole(s.K), whole(s.M))
	return from(1, s.M, s.K) && n.Cmp(whole(255)) <= 0 && from(1, s.Block, 65536)
}

func isSet(set *api.Set) bool {
	return isShape(set.Shape) && len(set.Disks) == set.Shape.K+set.Shape.M && from(1, set.Last.Epoch, 4294967295) && from(0, set.Last.Count, 4294967295)
}

func fits(s api.Shape, size int) bool {
	stripe := s.K * s.Block
	blocks := size / stripe
	if size%stripe > 0 {
		blocks++
	}
	return size <= 1048576 && blocks <= 4096
}

// nameOf is the name of a key's file.
func nameOf(key string) string { return "o" + fmt.Sprintf("%x", key) }

// shardsOf are the shards of an object.
func shardsOf(h api.Head, data []byte) []api.Shard {
	shards, err := stripe.Split(h, data)
	if err != 0 {
		panic(fmt.Sprint("no object: ", h, err))
	}
	return shards
}

// formOf is the bytes of a shard's file.
func formOf(s api.Shard) []byte {
	b, err := frame.Encode(s)
	if err != 0 {
		panic(fmt.Sprint("no shard: ", s.Head, err))
	}
	return b
}

// subject is a drive that tells all that became of it.
type subject interface {
	api.Disk
	chart() string
}

// spy is a drive that writes down what it is asked, and answers as it was told to.
type spy struct {
	bytes  []byte            // what Read tells, beside whatever number
	errs   map[int]api.Errno // of the calls of these numbers; of the others OK, or ErrMissing of a Read where there are no bytes
	struck int               // in the round of this number the power goes: 1, 2, ..
	over   func(round int)   // is told when a round is over
	calls  int
	rounds int
	asked  []string
}

func (s *spy) ask(says string, args ...any) api.Errno {
	s.asked = append(s.asked, fmt.Sprintf(says, args...))
	s.calls++
	return s.errs[s.calls-1]
}

func (s *spy) Create(name string) api.Errno              { return s.ask("Create %q", name) }
func (s *spy) Append(name string, data []byte) api.Errno { return s.ask("Append %q %x", name, data) }
func (s *spy) Sync(name string) api.Errno                { return s.ask("Sync %q", name) }
func (s *spy) Rename(old, to string) api.Errno           { return s.ask("Rename %q %q", old, to) }
func (s *spy) Remove(name string) api.Errno              { return s.ask("Remove %q", name) }
func (s *spy) SyncDir() api.Errno                        { return s.ask("SyncDir") }
func (s *spy) List() ([]string, api.Errno)               { return nil, s.ask("List") }

func (s *spy) Read(name string) ([]byte, api.Errno) {
	_, told := s.errs[s.calls]
	err := s.ask("Read %q", name)
	if !told && s.bytes == nil {
		err = 110
	}
	return s.bytes, err
}

func (s *spy) Struck() bool {
	s.rounds++
	s.asked = append(s.asked, "Struck")
	return s.rounds == s.struck
}

func (s *spy) Rest(off bool) {
	s.asked = append(s.asked, fmt.Sprint("Rest ", off))
	if s.over != nil {
		s.over(s.rounds)
	}
}

func (s *spy) chart() string { return strings.Join(s.asked, "; ") }

// patient is a wound, of which all can be told.
type patient struct{ *wound.Wound }

func (p patient) chart() string {
	return fmt.Sprint(p.Image(), p.Safe(), p.Pending(), p.Used(), p.Calls(), p.Struck(), p.On())
}

// scene is all that a Put is handed.
type scene struct {
	set   *api.Set
	disks []subject
	done  chan struct{}
	key   string
	data  []byte
}

// sceneOf is the scene of a store over such drives, of which nothing is stopped.
func sceneOf(shape api.Shape, disks []subject, key string, data []byte) scene {
	return scene{
		set:   &api.Set{Disks: disksOf(disks), Shape: shape, Store: [8]byte{7, 7: 9}, Last: api.Gen{Epoch: 3, Count: 5}},
		disks: disks,
		key:   key,
		data:  data,
	}
}

// disksOf are the subjects as a caller hands them in.
func disksOf(l []subject) []api.Disk {
	disks := make([]api.Disk, len(l))
	for i, s := range l {
		if s != nil {
			disks[i] = s
		}
	}
	return disks
}

// Put in the words of P19.1: the jobs of a round one behind the other, the last drive first.

func (s scene) stopped() bool {
	if len(s.done) > 0 {
		return true
	}
	select {
	case <-s.done:
		return true
	default:
		return false
	}
}

func (s scene) round(job func(i int, d api.Disk)) {
	for i, d := range slices.Backward(s.disks) {
		if d != nil {
			job(i, d)
		}
	}
	off := false
	for _, d := range s.disks {
		if d != nil && d.Struck() {
			off = true
		}
	}
	for _, d := range s.disks {
		if d != nil {
			d.Rest(off)
		}
	}
}

func (s scene) putByHand() api.Errno {
	switch {
	case s.set == nil:
		return 1
	case !isSet(s.set):
		return 2
	case !from(1, len(s.key), 255):
		return 90
	case !fits(s.set.Shape, len(s.data)):
		return 3
	case s.set.Last.Count == 4294967295:
		return 181
	case s.stopped():
		return 160
	}
	if err := s.lookByHand(); err != 0 {
		return err
	}
	s.set.Last.Count++
	if s.stopped() {
		return 160
	}
	return s.writeByHand()
}

// writing is a generation and a Size.
type writing struct{ epoch, count, size int }

func (s scene) lookByHand() api.Errno {
	k, m := s.set.Shape.K, s.set.Shape.M
	shown := map[writing]int{}
	hidden, down := 0, false
	for _, d := range s.disks {
		if d == nil {
			hidden++
		}
	}
	s.round(func(i int, d api.Disk) {
		b, err := d.Read(nameOf(s.key))
		down = down || err == 122
		shard, no := frame.Parse(b)
		switch {
		case err == 110:
		case err != 0 || no != 0 || shard.Store != s.set.Store || shard.Shape != s.set.Shape || shard.Key != s.key || shard.Index != i:
			hidden++
		default:
			shown[writing{shard.Gen.Epoch, shard.Gen.Count, shard.Size}]++
		}
	})
	if down {
		return 122
	}
	for _, places := range shown {
		if places >= k {
			return 190
		}
	}
	if hidden > m {
		return 170
	}
	return 0
}

func (s scene) writeByHand() api.Errno {
	shards := shardsOf(api.Head{Store: s.set.Store, Shape: s.set.Shape, Key: s.key, Gen: s.set.Last}, s.data)
	well, down := 0, false
	s.round(func(i int, d api.Disk) {
		switch storeByHand(d, shards[i]) {
		case 0:
			well++
		case 122:
			down = true
		}
	})
	switch {
	case down:
		return 122
	case well >= s.set.Shape.K+1:
		return 0
	}
	return 170
}

// storeByHand makes the calls up to the first that is not answered OK.
func storeByHand(d api.Disk, s api.Shard) api.Errno {
	for _, call := range []func() api.Errno{
		func() api.Errno { return d.Create("t") },
		func() api.Errno { return d.Append("t", formOf(s)) },
		func() api.Errno { return d.Sync("t") },
		func() api.Errno { return d.Rename("t", nameOf(s.Key)) },
		d.SyncDir,
	} {
		if err := call(); err != 0 {
			return err
		}
	}
	return 0
}

// put calls Put, and wants all that was handed in as it was, but for the set's Last. It answers Put's number.
func (s scene) put(t *testing.T) api.Errno {
	t.Helper()
	if s.set == nil {
		return put.Put(nil, s.done, s.key, s.data)
	}
	was, disks, data := *s.set, slices.Clone(s.set.Disks), slices.Clone(s.data)
	err := put.Put(s.set, s.done, s.key, s.data)
	fatalUnless(t, slices.Equal(disks, s.set.Disks) && s.set.Shape == was.Shape && s.set.Store == was.Store, "the set became %v", *s.set)
	fatalUnless(t, slices.Equal(data, s.data), "the data became %v", s.data)
	fatalUnless(t, err != 0 || s.set.Last == api.Gen{Epoch: was.Last.Epoch, Count: was.Last.Count + 1}, "Last was %v and is %v", was.Last, s.set.Last)
	return err
}

// checkPut holds Put against the chapter's words, played on drives that are like its own: anew makes them. It answers Put's number.
func checkPut(t *testing.T, anew func() scene) api.Errno {
	t.Helper()
	mine, theirs := anew(), anew()
	want := theirs.putByHand()
	err := mine.put(t)
	if err != want || mine.set != nil && mine.set.Last != theirs.set.Last {
		t.Fatalf("Put(%v, %q, %d bytes) = %d, not %d; the set by hand: %v; the drives, when all was over:\n%s", mine.set, mine.key, len(mine.data), err, want, theirs.set, charts(theirs.disks))
	}
	for i, s := range mine.disks {
		if s != nil && s.chart() != theirs.disks[i].chart() {
			t.Fatalf("Put = %d: the drive %d comes to\n%s\nnot\n%s", err, i, s.chart(), theirs.disks[i].chart())
		}
	}
	return err
}

func charts(l []subject) string {
	var text []string
	for _, s := range l {
		if s == nil {
			text = append(text, "none")
		} else {
			text = append(text, s.chart())
		}
	}
	return strings.Join(text, "\n")
}

// spies are so many drives, each as the function says.
func spies(n int, anew func(i int) *spy) []subject {
	l := make([]subject, n)
	for i := range l {
		if s := anew(i); s != nil {
			l[i] = s
		}
	}
	return l
}

// plain are so many drives on which nothing stands and to which nothing happens.
func plain(n int) []subject { return spies(n, func(int) *spy { return &spy{} }) }

// ward is so many wounds over empty drives of that room, and a set of them.
func ward(shape api.Shape, room int) (*api.Set, []*wound.Wound) {
	set := &api.Set{Shape: shape, Store: [8]byte{7}, Last: api.Gen{Epoch: 1}}
	var w []*wound.Wound
	for range shape.K + shape.M {
		w = append(w, wound.New(drive.New(room)))
		set.Disks = append(set.Disks, w[len(w)-1])
	}
	return set, w
}

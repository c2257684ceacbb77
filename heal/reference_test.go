package heal_test

import (
	"bytes"
	"encoding/binary"
	"encoding/hex"
	"fmt"
	"hash/crc32"
	"maps"
	"math/big"
	"math/rand"
	"regexp"
	"slices"
	"strings"
	"testing"

	"cairn/api"
	"cairn/drive"
	"cairn/frame"
	"cairn/heal"
	"cairn/stripe"
	"cairn/wound"
)

var (
	_ subject = (*spy)(nil)
	_ subject = patient{}
)

func fatalUnless(t *testing.T, is bool, says string, args ...any) {
	t.Helper()
	if !is {
		t.Fatalf(says, args...)
	}
}

func wantNumber(t *testing.T, says string, got, want api.Errno) {
	t.Helper()
	fatalUnless(t, got == want, "%s = %d, not %d", says, got, want)
}

// wantMet wants each of these numbers to have been answered often, and no other one.
func wantMet(t *testing.T, met map[api.Errno]int, all ...api.Errno) {
	t.Helper()
	for _, err := range all {
		fatalUnless(t, met[err] > 100 && len(met) == len(all), "%d: %d times of %v", err, met[err], met)
	}
}

func source(seed int64) *rand.Rand { return rand.New(rand.NewSource(seed)) }

// pick is one of the list.
func pick[E any](r *rand.Rand, l ...E) E { return l[r.Intn(len(l))] }

// every hands over all lists of n numbers below m.
func every(n, m int, each func([]int)) {
	l := make([]int, n)
	for {
		each(l)
		i := 0
		for i < n && l[i] == m-1 {
			l[i] = 0
			i++
		}
		if i == n {
			return
		}
		l[i]++
	}
}

// subsets hands over all lists of just so many of the numbers below n, rising.
func subsets(n, many int, each func([]int)) {
	for bits := range 1 << n {
		var l []int
		for i := range n {
			if bits>>i&1 == 1 {
				l = append(l, i)
			}
		}
		if len(l) == many {
			each(l)
		}
	}
}

// small is the shape of the chapter's examples.
func small() api.Shape { return api.Shape{K: 2, M: 1, Block: 4} }

// shapes are such as have few drives.
func shapes() []api.Shape {
	return []api.Shape{{K: 1, M: 1, Block: 1}, small(), {K: 2, M: 2, Block: 3}, {K: 3, M: 1, Block: 2}, {K: 3, M: 2, Block: 4}}
}

// theStore is the name of the store that the tests play with, theLast the generation that it gave out last.
func theStore() [8]byte { return [8]byte{7, 7: 9} }

func theLast() api.Gen { return api.Gen{Epoch: 3, Count: 5} }

// What may be, in the words of the page, reckoned without bounds.

func number(n int) *big.Int { return big.NewInt(int64(n)) }

func from(least, n, greatest int) bool {
	return number(least).Cmp(number(n)) <= 0 && number(n).Cmp(number(greatest)) <= 0
}

func isShape(s api.Shape) bool {
	n := new(big.Int).Add(number(s.K), number(s.M))
	return from(1, s.M, s.K) && n.Cmp(number(255)) <= 0 && from(1, s.Block, 65536)
}

func isSet(set *api.Set) bool {
	return isShape(set.Shape) && len(set.Disks) == set.Shape.K+set.Shape.M && from(1, set.Last.Epoch, 4294967295) && from(0, set.Last.Count, 4294967295)
}

// nameOf is the name of a key's file.
func nameOf(key string) string { return "o" + fmt.Sprintf("%x", key) }

var objectName = regexp.MustCompile(`^o([0-9a-f]{2}){1,255}$`)

// keyOf is the key whose file has that name, if there is one.
func keyOf(name string) (string, bool) {
	if !objectName.MatchString(name) || strings.HasSuffix(name, "\n") {
		return "", false
	}
	key, err := hex.DecodeString(name[1:])
	return string(key), err == nil
}

// labelOf is the bytes of a label, after the table of chapter 15.
func labelOf(store [8]byte, shape api.Shape, place, epoch int) []byte {
	b := append([]byte{67, 82, 78, 1}, store[:]...)
	b = append(b, byte(shape.K), byte(shape.M))
	b = binary.LittleEndian.AppendUint32(b, uint32(shape.Block))
	b = append(b, byte(place))
	b = binary.LittleEndian.AppendUint64(b, uint64(epoch))
	return binary.LittleEndian.AppendUint32(b, crc32.Checksum(b, crc32.MakeTable(crc32.Castagnoli)))
}

// shardsOf are the shards of an object.
func shardsOf(h api.Head, data []byte) []api.Shard {
	shards, err := stripe.Split(h, data)
	if err != 0 {
		panic(fmt.Sprint("no object: ", h, err))
	}
	return shards
}

// formOf is the bytes of a shard's file.
func formOf(s api.Shard) []byte {
	b, err := frame.Encode(s)
	if err != 0 {
		panic(fmt.Sprint("no shard: ", s.Head, err))
	}
	return b
}

// subject is a drive that tells all that became of it.
type subject interface {
	api.Disk
	chart() string
}

// spy is a drive that writes down what it is asked, and answers as it was told to.
type spy struct {
	files  map[string][]byte    // what stands there
	names  []string             // what List tells beside the names of the files
	list   api.Errno            // what List answers, beside the names
	reads  map[string]api.Errno // what Read answers of these names, beside whatever bytes
	errs   map[int]api.Errno    // what the calls of these numbers answer, without doing anything
	struck int                  // in the round of this number the power goes: 1, 2, ..
	over   func(round int)      // is told when a round is over
	calls  int
	rounds int
	asked  []string
}

// ask writes a call down; of one that is refused it tells with which number.
func (s *spy) ask(says string, args ...any) (api.Errno, bool) {
	s.asked = append(s.asked, fmt.Sprintf(says, args...))
	s.calls++
	err, told := s.errs[s.calls-1]
	return err, told
}

func (s *spy) Create(name string) api.Errno {
	err, told := s.ask("Create %q", name)
	if !told {
		s.put(name, nil)
	}
	return err
}

func (s *spy) Append(name string, data []byte) api.Errno {
	err, told := s.ask("Append %q %x", name, data)
	if !told {
		s.put(name, slices.Concat(s.files[name], data))
	}
	return err
}

func (s *spy) Sync(name string) api.Errno {
	err, _ := s.ask("Sync %q", name)
	return err
}

func (s *spy) Rename(old, to string) api.Errno {
	err, told := s.ask("Rename %q %q", old, to)
	if !told {
		s.put(to, s.files[old])
		delete(s.files, old)
	}
	return err
}

func (s *spy) Remove(name string) api.Errno {
	err, told := s.ask("Remove %q", name)
	if told {
		return err
	}
	if _, is := s.files[name]; !is {
		return 110
	}
	delete(s.files, name)
	return 0
}

func (s *spy) SyncDir() api.Errno {
	err, _ := s.ask("SyncDir")
	return err
}

func (s *spy) List() ([]string, api.Errno) {
	err, told := s.ask("List")
	if !told {
		err = s.list
	}
	return slices.Concat(s.names, slices.Collect(maps.Keys(s.files))), err // in no order
}

func (s *spy) Read(name string) ([]byte, api.Errno) {
	err, told := s.ask("Read %q", name)
	b, is := s.files[name]
	if !told {
		err, told = s.reads[name]
	}
	if !is && !told {
		return nil, 110
	}
	return b, err
}

func (s *spy) Struck() bool {
	s.rounds++
	s.asked = append(s.asked, "Struck")
	return s.rounds == s.struck
}

func (s *spy) Rest(off bool) {
	s.asked = append(s.asked, fmt.Sprint("Rest ", off))
	if s.over != nil {
		s.over(s.rounds)
	}
}

func (s *spy) chart() string { return strings.Join(s.asked, "; ") }

// put makes these bytes the file's.
func (s *spy) put(name string, b []byte) *spy {
	if s.files == nil {
		s.files = map[string][]byte{}
	}
	s.files[name] = b
	return s
}

// fail makes the call of this number answer so.
func (s *spy) fail(call int, err api.Errno) *spy {
	if s.errs == nil {
		s.errs = map[int]api.Errno{}
	}
	s.errs[call] = err
	return s
}

// refuse makes the reading of this name answer so.
func (s *spy) refuse(name string, err api.Errno) *spy {
	if s.reads == nil {
		s.reads = map[string]api.Errno{}
	}
	s.reads[name] = err
	return s
}

// patient is a wound, of which all can be told.
type patient struct{ *wound.Wound }

func (p patient) chart() string {
	return fmt.Sprint(p.Image(), p.Safe(), p.Pending(), p.Used(), p.Calls(), p.Struck(), p.On())
}

// scene is all that a Heal is handed.
type scene struct {
	set   *api.Set
	disks []subject
	done  chan struct{}
}

// sceneOf is the scene of a store over such drives, of which nothing is stopped.
func sceneOf(shape api.Shape, disks []subject) scene {
	return scene{
		set:   &api.Set{Disks: disksOf(disks), Shape: shape, Store: theStore(), Last: theLast()},
		disks: disks,
	}
}

// disksOf are the subjects as a caller hands them in.
func disksOf(l []subject) []api.Disk {
	disks := make([]api.Disk, len(l))
	for i, s := range l {
		if s != nil {
			disks[i] = s
		}
	}
	return disks
}

// Heal in the words of the chapter: the jobs of a round one behind the other, the last drive first.

// hand is a healing by hand so far.
type hand struct {
	scene
	whole, down bool
	healed      api.Healed
}

// hear notes what a call of a drive was answered.
func (h *hand) hear(err api.Errno) api.Errno {
	switch err {
	case 0, 110:
	case 122:
		h.down = true
	default:
		h.whole = false
	}
	return err
}

func (s scene) stopped() bool {
	if len(s.done) > 0 {
		return true
	}
	select {
	case <-s.done:
		return true
	default:
		return false
	}
}

// round is 160, if it is stopped, and 122, if a drive answered that.
func (h *hand) round(job func(i int, d api.Disk)) api.Errno {
	if h.stopped() {
		return 160
	}
	for i, d := range slices.Backward(h.disks) {
		if d != nil {
			job(i, d)
		}
	}
	off := false
	for _, d := range h.disks {
		if d != nil && d.Struck() {
			off = true
		}
	}
	for _, d := range h.disks {
		if d != nil {
			d.Rest(off)
		}
	}
	if h.down {
		return 122
	}
	return 0
}

// write is what layer 13's Write does.
func (h *hand) write(d api.Disk, name string, b []byte) bool {
	return h.hear(d.Create("t")) == 0 && h.hear(d.Append("t", slices.Clone(b))) == 0 && h.hear(d.Sync("t")) == 0 && h.hear(d.Rename("t", name)) == 0 && h.hear(d.SyncDir()) == 0
}

func (s scene) healByHand() (api.Healed, api.Errno) {
	switch {
	case s.set == nil:
		return api.Healed{}, 1
	case !isSet(s.set):
		return api.Healed{}, 2
	}
	h := &hand{scene: s, whole: !slices.Contains(s.disks, nil)}
	met := map[string]bool{}
	err := h.round(func(_ int, d api.Disk) {
		if h.hear(d.SyncDir()) != 0 {
			return
		}
		names, err := d.List()
		if h.hear(err) != 0 {
			return
		}
		for _, name := range names {
			if key, is := keyOf(name); is {
				met[key] = true
			}
		}
	})
	if err != 0 {
		return api.Healed{}, err
	}
	if err := h.round(h.label); err != 0 {
		return api.Healed{}, err
	}
	for _, key := range slices.Sorted(maps.Keys(met)) {
		if err := h.key(key); err != 0 {
			return api.Healed{}, err
		}
	}
	if h.whole && h.healed.Unknown == 0 {
		return h.healed, 0
	}
	return h.healed, 230
}

// label is the job of the second round.
func (h *hand) label(i int, d api.Disk) {
	right := labelOf(h.set.Store, h.set.Shape, i, h.set.Last.Epoch)
	b, err := d.Read("l")
	h.hear(err)
	if err == 0 && !bytes.Equal(b, right) || err == 110 || err == 150 {
		h.write(d, "l", right)
	}
}

// writing is by what shards of a key are told apart.
type writing struct{ epoch, count, size int }

func (w writing) isNewer(than writing) bool {
	return slices.Compare([]int{w.epoch, w.count, w.size}, []int{than.epoch, than.count, than.size}) > 0
}

// key is what is done for a key.
func (h *hand) key(key string) api.Errno {
	n := len(h.disks)
	shards, hidden, file := make([]api.Shard, n), 0, make([]bool, n)
	err := h.round(func(i int, d api.Disk) {
		b, err := d.Read(nameOf(key))
		if h.hear(err); err == 110 {
			return
		}
		s, no := frame.Parse(b)
		if err == 0 && no == 0 && s.Store == h.set.Store && s.Shape == h.set.Shape && s.Key == key && s.Index == i {
			shards[i] = s
		} else {
			hidden++
		}
		file[i] = err == 0
	})
	if err != 0 {
		return err
	}
	for _, d := range h.disks {
		if d == nil {
			hidden++
		}
	}
	places := map[writing]int{}
	for _, s := range shards {
		if s.Key != "" {
			places[writing{s.Gen.Epoch, s.Gen.Count, s.Size}]++
		}
	}
	var best writing
	for w, count := range places {
		if count >= h.set.Shape.K && w.isNewer(best) {
			best = w
		}
	}
	switch {
	case best != writing{}:
		h.healed.Keys++
		return h.bring(key, best, shards)
	case hidden > h.set.Shape.M:
		h.healed.Unknown++
		return 0
	case !h.whole || !slices.Contains(file, true):
		return 0
	}
	return h.round(func(i int, d api.Disk) {
		if !file[i] {
			return
		}
		if err := h.hear(d.Remove(nameOf(key))); (err == 0 || err == 110) && h.hear(d.SyncDir()) == 0 {
			h.healed.Gone++
		}
	})
}

// bring writes the writing to the places that don't show it.
func (h *hand) bring(key string, w writing, shards []api.Shard) api.Errno {
	stale, some := make([]bool, len(shards)), false
	for i, s := range shards {
		if s.Key == "" || (writing{s.Gen.Epoch, s.Gen.Count, s.Size}) != w {
			shards[i] = api.Shard{}
			stale[i] = h.disks[i] != nil
			some = some || stale[i]
		}
	}
	if !some {
		return 0
	}
	data, err := stripe.Join(shards)
	if err != 0 {
		panic(fmt.Sprint("no object: ", err))
	}
	all := shardsOf(api.Head{Store: h.set.Store, Shape: h.set.Shape, Key: key, Gen: api.Gen{Epoch: w.epoch, Count: w.count}}, data)
	return h.round(func(i int, d api.Disk) {
		if stale[i] && h.write(d, nameOf(key), formOf(all[i])) {
			h.healed.Written++
		}
	})
}

// unturned wants the set as it was when the call has ended.
func (s scene) unturned(t *testing.T, call func()) {
	t.Helper()
	if s.set == nil {
		call()
		return
	}
	was, disks := *s.set, slices.Clone(s.set.Disks)
	call()
	fatalUnless(t, slices.Equal(disks, s.set.Disks) && s.set.Shape == was.Shape && s.set.Store == was.Store && s.set.Last == was.Last, "the set was %v, and is %v", was, *s.set)
}

// heal calls Heal, and wants the set as it was.
func (s scene) heal(t *testing.T) (h api.Healed, err api.Errno) {
	t.Helper()
	s.unturned(t, func() { h, err = heal.Heal(s.set, s.done) })
	return h, err
}

// wantHealed wants a Heal to answer so.
func (s scene) wantHealed(t *testing.T, says string, want api.Healed, no api.Errno) {
	t.Helper()
	h, err := s.heal(t)
	fatalUnless(t, h == want && err == no, "%s: Heal = %v, %d, not %v, %d", says, h, err, want, no)
}

// check holds Heal against the chapter's words, played on drives that are like its own: anew makes them. It answers what Heal does.
func check(t *testing.T, anew func() scene) (api.Healed, api.Errno) {
	t.Helper()
	mine, theirs := anew(), anew()
	want, no := theirs.healByHand()
	h, err := mine.heal(t)
	if h != want || err != no {
		t.Fatalf("Heal(%v) = %v, %d, not %v, %d; the drives by hand, when all was over:\n%s", mine.set, h, err, want, no, charts(theirs.disks))
	}
	for i, s := range mine.disks {
		if s != nil && s.chart() != theirs.disks[i].chart() {
			t.Fatalf("Heal = %v, %d: the drive %d comes to\n%s\nnot\n%s", h, err, i, s.chart(), theirs.disks[i].chart())
		}
	}
	return h, err
}

func charts(l []subject) string {
	var text []string
	for _, s := range l {
		if s == nil {
			text = append(text, "none")
		} else {
			text = append(text, s.chart())
		}
	}
	return strings.Join(text, "\n")
}

// spies are so many drives, each as the function says.
func spies(n int, anew func(i int) *spy) []subject {
	l := make([]subject, n)
	for i := range l {
		if s := anew(i); s != nil {
			l[i] = s
		}
	}
	return l
}

// labelled is an empty drive with its label.
func labelled(shape api.Shape, place int) *spy {
	return (&spy{}).put("l", labelOf(theStore(), shape, place, theLast().Epoch))
}

// text is an object with its head.
type text struct {
	head api.Head
	data string
}

var made = map[text][][]byte{}

// formsOf are the bytes of the files of an object, which are made once: a great shape takes its time.
func formsOf(h api.Head, data string) [][]byte {
	if _, is := made[text{h, data}]; !is {
		var forms [][]byte
		for _, s := range shardsOf(h, []byte(data)) {
			forms = append(forms, formOf(s))
		}
		made[text{h, data}] = forms
	}
	return made[text{h, data}]
}

// shelf is a labelled drive on which stand the shards of these keys.
func shelf(shape api.Shape, place int, keys ...string) *spy {
	s := labelled(shape, place)
	for _, key := range keys {
		s.put(nameOf(key), slices.Clone(formsOf(api.Head{Store: theStore(), Shape: shape, Key: key, Gen: api.Gen{Epoch: 1, Count: 1}}, "of "+key)[place]))
	}
	return s
}

// shelves is a scene in which these keys stand at all places.
func shelves(shape api.Shape, keys ...string) scene {
	return sceneOf(shape, spies(shape.K+shape.M, func(i int) *spy { return shelf(shape, i, keys...) }))
}

// wounds are drives that hold what the spies do, all of it safe.
func wounds(l []subject) []subject {
	all := make([]subject, len(l))
	for i, s := range l {
		if s == nil {
			continue
		}
		var files []api.File
		for name, b := range s.(*spy).files {
			files = append(files, api.File{Name: name, Data: b})
		}
		all[i] = patient{wound.New(drive.Load(1<<20, files))}
	}
	return all
}

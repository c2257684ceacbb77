package listing_test

import (
	"encoding/hex"
	"fmt"
	"math/big"
	"math/rand"
	"regexp"
	"slices"
	"strings"
	"testing"

	"cairn/api"
	"cairn/drive"
	"cairn/frame"
	"cairn/listing"
	"cairn/stripe"
	"cairn/wound"
)

var (
	_ subject = (*spy)(nil)
	_ subject = patient{}
)

func fatalUnless(t *testing.T, is bool, says string, args ...any) {
	t.Helper()
	if !is {
		t.Fatalf(says, args...)
	}
}

func wantNumber(t *testing.T, says string, got, want api.Errno) {
	t.Helper()
	fatalUnless(t, got == want, "%s = %d, not %d", says, got, want)
}

// wantMet wants each of these numbers to have been answered often, and no other one.
func wantMet(t *testing.T, met map[api.Errno]int, all ...api.Errno) {
	t.Helper()
	for _, err := range all {
		fatalUnless(t, met[err] > 100 && len(met) == len(all), "%d: %d times of %v", err, met[err], met)
	}
}

func source(seed int64) *rand.Rand { return rand.New(rand.NewSource(seed)) }

// pick is one of the list.
func pick[E any](r *rand.Rand, l ...E) E { return l[r.Intn(len(l))] }

// every hands over all lists of n numbers below m.
func every(n, m int, each func([]int)) {
	l := make([]int, n)
	for {
		each(l)
		i := 0
		for i < n && l[i] == m-1 {
			l[i] = 0
			i++
		}
		if i == n {
			return
		}
		l[i]++
	}
}

// small is the shape of the chapter's examples.
func small() api.Shape { return api.Shape{K: 2, M: 1, Block: 4} }

// shapes are such as have few drives.
func shapes() []api.Shape {
	return []api.Shape{{K: 1, M: 1, Block: 1}, small(), {K: 2, M: 2, Block: 3}, {K: 3, M: 1, Block: 2}, {K: 3, M: 2, Block: 4}}
}

// theStore is the name of the store that the tests play with.
func theStore() [8]byte { return [8]byte{7, 7: 9} }

// What may be, in the words of the page, reckoned without bounds.

func number(n int) *big.Int { return big.NewInt(int64(n)) }

func from(least, n, greatest int) bool {
	return number(least).Cmp(number(n)) <= 0 && number(n).Cmp(number(greatest)) <= 0
}

func isShape(s api.Shape) bool {
	n := new(big.Int).Add(number(s.K), number(s.M))
	return from(1, s.M, s.K) && n.Cmp(number(255)) <= 0 && from(1, s.Block, 65536)
}

func isSet(set *api.Set) bool {
	return isShape(set.Shape) && len(set.Disks) == set.Shape.K+set.Shape.M && from(1, set.Last.Epoch, 4294967295) && from(0, set.Last.Count, 4294967295)
}

func isQuery(q api.Query) bool { return from(-1, q.Delim, 255) && from(1, q.Limit, 1000) }

// nameOf is the name of a key's file.
func nameOf(key string) string { return "o" + fmt.Sprintf("%x", key) }

var objectName = regexp.MustCompile(`^o([0-9a-f]{2}){1,255}$`)

// keyOf is the key whose file has that name, if there is one.
func keyOf(name string) (string, bool) {
	if !objectName.MatchString(name) || strings.HasSuffix(name, "\n") {
		return "", false
	}
	key, err := hex.DecodeString(name[1:])
	return string(key), err == nil
}

// shardsOf are the shards of an object.
func shardsOf(h api.Head, data []byte) []api.Shard {
	shards, err := stripe.Split(h, data)
	if err != 0 {
		panic(fmt.Sprint("no object: ", h, err))
	}
	return shards
}

// formOf is the bytes of a shard's file.
func formOf(s api.Shard) []byte {
	b, err := frame.Encode(s)
	if err != 0 {
		panic(fmt.Sprint("no shard: ", s.Head, err))
	}
	return b
}

// subject is a drive that tells all that became of it.
type subject interface {
	api.Disk
	chart() string
}

// spy is a drive that writes down what it is asked, and answers as it was told to.
type spy struct {
	names  []string             // what List tells, beside whatever number
	files  map[string][]byte    // what Read tells, beside whatever number
	list   api.Errno            // what List answers
	reads  map[string]api.Errno // what Read answers of these names; of the others OK, or ErrMissing where there is no file
	struck int                  // in the round of this number the power goes: 1, 2, ..
	over   func(round int)      // is told when a round is over
	rounds int
	asked  []string
}

func (s *spy) ask(says string, args ...any) { s.asked = append(s.asked, fmt.Sprintf(says, args...)) }

func (s *spy) Create(name string) api.Errno              { s.ask("Create %q", name); return 0 }
func (s *spy) Append(name string, data []byte) api.Errno { s.ask("Append %q %x", name, data); return 0 }
func (s *spy) Sync(name string) api.Errno                { s.ask("Sync %q", name); return 0 }
func (s *spy) Rename(old, to string) api.Errno           { s.ask("Rename %q %q", old, to); return 0 }
func (s *spy) Remove(name string) api.Errno              { s.ask("Remove %q", name); return 0 }
func (s *spy) SyncDir() api.Errno                        { s.ask("SyncDir"); return 0 }
func (s *spy) List() ([]string, api.Errno)               { s.ask("List"); return s.names, s.list }

func (s *spy) Read(name string) ([]byte, api.Errno) {
	s.ask("Read %q", name)
	b, is := s.files[name]
	err, told := s.reads[name]
	if !is && !told {
		return nil, 110
	}
	return b, err
}

func (s *spy) Struck() bool {
	s.rounds++
	s.ask("Struck")
	return s.rounds == s.struck
}

func (s *spy) Rest(off bool) {
	s.ask("Rest %v", off)
	if s.over != nil {
		s.over(s.rounds)
	}
}

func (s *spy) chart() string { return strings.Join(s.asked, "; ") }

// fail makes the reading of this key answer so.
func (s *spy) fail(key string, err api.Errno) *spy {
	if s.reads == nil {
		s.reads = map[string]api.Errno{}
	}
	s.reads[nameOf(key)] = err
	return s
}

// lay lays a file onto the drive, and its name to those that it tells.
func (s *spy) lay(key string, b []byte) *spy {
	if s.files == nil {
		s.files = map[string][]byte{}
	}
	s.files[nameOf(key)] = b
	s.names = append(s.names, nameOf(key))
	return s
}

// What a drive is asked in the first round, and in both, if it told these keys.
const asksOnce = "List; Struck; Rest false"

func asksTwice(keys ...string) string {
	text := asksOnce
	for _, key := range keys {
		text += fmt.Sprintf("; Read %q", nameOf(key))
	}
	return text + "; Struck; Rest false"
}

// patient is a wound, of which all can be told.
type patient struct{ *wound.Wound }

func (p patient) chart() string {
	return fmt.Sprint(p.Image(), p.Safe(), p.Pending(), p.Used(), p.Calls(), p.Struck(), p.On())
}

// scene is all that a List or a Page is handed; a List the query's prefix.
type scene struct {
	set   *api.Set
	disks []subject
	done  chan struct{}
	query api.Query
}

// sceneOf is the scene of a store over such drives, of which nothing is stopped and all is asked.
func sceneOf(shape api.Shape, disks []subject) scene {
	return scene{
		set:   &api.Set{Disks: disksOf(disks), Shape: shape, Store: theStore(), Last: api.Gen{Epoch: 3, Count: 5}},
		disks: disks,
		query: api.Query{Delim: -1, Limit: 1000},
	}
}

// disksOf are the subjects as a caller hands them in.
func disksOf(l []subject) []api.Disk {
	disks := make([]api.Disk, len(l))
	for i, s := range l {
		if s != nil {
			disks[i] = s
		}
	}
	return disks
}

// List and Page in the words of the chapter: the jobs of a round one behind the other, the last drive first.

func (s scene) stopped() bool {
	if len(s.done) > 0 {
		return true
	}
	select {
	case <-s.done:
		return true
	default:
		return false
	}
}

func (s scene) round(job func(i int, d api.Disk)) {
	for i, d := range slices.Backward(s.disks) {
		if d != nil {
			job(i, d)
		}
	}
	off := false
	for _, d := range s.disks {
		if d != nil && d.Struck() {
			off = true
		}
	}
	for _, d := range s.disks {
		if d != nil {
			d.Rest(off)
		}
	}
}

func (s scene) listByHand() ([]string, api.Errno) {
	switch {
	case s.set == nil:
		return nil, 1
	case !isSet(s.set):
		return nil, 2
	case s.stopped():
		return nil, 160
	}
	told := make([][]string, len(s.disks)) // the wanted keys, as each drive told them
	well, down := 0, false
	s.round(func(i int, d api.Disk) {
		names, err := d.List()
		if err == 0 {
			well++
			told[i] = wantedOf(names, s.query.Prefix)
		}
		down = down || err == 122
	})
	switch {
	case down:
		return nil, 122
	case well < s.set.Shape.K:
		return nil, 170
	case s.stopped():
		return nil, 160
	}
	type writing struct{ epoch, count, size int }
	shown := map[string]map[writing]int{}
	s.round(func(i int, d api.Disk) {
		for _, key := range told[i] {
			b, err := d.Read(nameOf(key))
			down = down || err == 122
			if h, is := s.headOf(b, key, i); is && err == 0 {
				if shown[key] == nil {
					shown[key] = map[writing]int{}
				}
				shown[key][writing{h.Gen.Epoch, h.Gen.Count, h.Size}]++
			}
		}
	})
	if down {
		return nil, 122
	}
	var keys []string
	for key, writings := range shown {
		for _, places := range writings {
			if places >= s.set.Shape.K && !slices.Contains(keys, key) {
				keys = append(keys, key)
			}
		}
	}
	slices.Sort(keys)
	return keys, 0
}

// wantedOf are the keys of objects' names that begin with the prefix, rising, each once.
func wantedOf(names []string, prefix string) []string {
	var keys []string
	for _, name := range names {
		if key, is := keyOf(name); is && strings.HasPrefix(key, prefix) && !slices.Contains(keys, key) {
			keys = append(keys, key)
		}
	}
	slices.Sort(keys)
	return keys
}

// headOf is the head of the bytes, if they look like a shard of the key at the place.
func (s scene) headOf(b []byte, key string, place int) (api.Head, bool) {
	h, err := frame.ParseHead(b)
	if err != 0 {
		return h, false
	}
	length, _ := frame.Length(h)
	return h, length == len(b) && h.Store == s.set.Store && h.Shape == s.set.Shape && h.Key == key && h.Index == place
}

// entryByHand is the entry of a key, and whether it is a group.
func entryByHand(key string, q api.Query) (string, bool) {
	for i := len(q.Prefix); i < len(key); i++ {
		if int(key[i]) == q.Delim {
			return key[:i+1], true
		}
	}
	return key, false
}

// pageOf is the page of a list of keys, in the words of the chapter.
func pageOf(keys []string, q api.Query) api.Page {
	groups := map[string]bool{}
	for _, key := range keys {
		if entry, group := entryByHand(key, q); entry > q.After {
			if is, met := groups[entry]; met && is != group {
				panic("a key and a group: " + entry)
			}
			groups[entry] = group
		}
	}
	var all []string
	for entry := range groups {
		all = append(all, entry)
	}
	slices.Sort(all)
	var page api.Page
	for i, entry := range all {
		switch {
		case i == q.Limit:
			page.More, page.Next = true, all[i-1]
			return page
		case groups[entry]:
			page.Groups = append(page.Groups, entry)
		default:
			page.Keys = append(page.Keys, entry)
		}
	}
	return page
}

func (s scene) pageByHand() (api.Page, api.Errno) {
	if s.set != nil && isSet(s.set) && !isQuery(s.query) {
		return api.Page{}, 2
	}
	keys, err := s.listByHand()
	if err != 0 {
		return api.Page{}, err
	}
	return pageOf(keys, s.query), 0
}

// samePage tells whether two pages are the same; nil and empty lists are.
func samePage(a, b api.Page) bool {
	return slices.Equal(a.Keys, b.Keys) && slices.Equal(a.Groups, b.Groups) && a.Next == b.Next && a.More == b.More
}

// unturned wants the set as it was when the call has ended.
func (s scene) unturned(t *testing.T, call func()) {
	t.Helper()
	if s.set == nil {
		call()
		return
	}
	was, disks := *s.set, slices.Clone(s.set.Disks)
	call()
	fatalUnless(t, slices.Equal(disks, s.set.Disks) && s.set.Shape == was.Shape && s.set.Store == was.Store && s.set.Last == was.Last, "the set was %v, and is %v", was, *s.set)
}

// list calls List, and wants the set as it was.
func (s scene) list(t *testing.T) (keys []string, err api.Errno) {
	t.Helper()
	s.unturned(t, func() { keys, err = listing.List(s.set, s.done, s.query.Prefix) })
	return keys, err
}

// page calls Page, and wants the set as it was.
func (s scene) page(t *testing.T) (page api.Page, err api.Errno) {
	t.Helper()
	s.unturned(t, func() { page, err = listing.Page(s.set, s.done, s.query) })
	return page, err
}

// wantSameCharts wants the drives to have come to what those by hand have come to.
func wantSameCharts(t *testing.T, says string, mine, theirs scene) {
	t.Helper()
	for i, s := range mine.disks {
		if s != nil && s.chart() != theirs.disks[i].chart() {
			t.Fatalf("%s: the drive %d comes to\n%s\nnot\n%s", says, i, s.chart(), theirs.disks[i].chart())
		}
	}
}

// check holds List and Page against the chapter's words, played on drives that are like their own: anew makes them. It answers what List does.
func check(t *testing.T, anew func() scene) ([]string, api.Errno) {
	t.Helper()
	mine, theirs := anew(), anew()
	wantPage, want := theirs.pageByHand()
	page, err := mine.page(t)
	if err != want || !samePage(page, wantPage) {
		t.Fatalf("Page(%v, %+v) = %+v, %d, not %+v, %d; the drives by hand, when all was over:\n%s", mine.set, mine.query, page, err, wantPage, want, charts(theirs.disks))
	}
	wantSameCharts(t, fmt.Sprint("Page = ", int(err)), mine, theirs)
	mine, theirs = anew(), anew()
	wantKeys, want := theirs.listByHand()
	keys, err := mine.list(t)
	if err != want || !slices.Equal(keys, wantKeys) {
		t.Fatalf("List(%v, %q) = %q, %d, not %q, %d; the drives by hand, when all was over:\n%s", mine.set, mine.query.Prefix, keys, err, wantKeys, want, charts(theirs.disks))
	}
	wantSameCharts(t, fmt.Sprint("List = ", int(err)), mine, theirs)
	return keys, err
}

func charts(l []subject) string {
	var text []string
	for _, s := range l {
		if s == nil {
			text = append(text, "none")
		} else {
			text = append(text, s.chart())
		}
	}
	return strings.Join(text, "\n")
}

// spies are so many drives, each as the function says.
func spies(n int, anew func(i int) *spy) []subject {
	l := make([]subject, n)
	for i := range l {
		if s := anew(i); s != nil {
			l[i] = s
		}
	}
	return l
}

// ward is so many wounds over empty drives of that room, and a set of them.
func ward(shape api.Shape, room int) (*api.Set, []*wound.Wound) {
	set := &api.Set{Shape: shape, Store: theStore(), Last: api.Gen{Epoch: 1}}
	var w []*wound.Wound
	for range shape.K + shape.M {
		w = append(w, wound.New(drive.New(room)))
		set.Disks = append(set.Disks, w[len(w)-1])
	}
	return set, w
}

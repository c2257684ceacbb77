package audit_test

import (
	"encoding/hex"
	"fmt"
	"math"
	"math/big"
	"math/rand"
	"regexp"
	"slices"
	"strings"
	"testing"

	"cairn/api"
	"cairn/audit"
	"cairn/drive"
	"cairn/frame"
	"cairn/stripe"
	"cairn/wound"
)

var (
	_ subject = (*spy)(nil)
	_ subject = patient{}
)

func fatalUnless(t *testing.T, is bool, says string, args ...any) {
	t.Helper()
	if !is {
		t.Fatalf(says, args...)
	}
}

func wantNumber(t *testing.T, says string, got, want api.Errno) {
	t.Helper()
	fatalUnless(t, got == want, "%s = %d, not %d", says, got, want)
}

// wantMet wants each of these to have come often, and nothing else.
func wantMet[T comparable](t *testing.T, met map[T]int, all ...T) {
	t.Helper()
	for _, x := range all {
		fatalUnless(t, met[x] > 100 && len(met) == len(all), "%v: %d times of %v", x, met[x], met)
	}
}

func source(seed int64) *rand.Rand { return rand.New(rand.NewSource(seed)) }

// pick is one of the list.
func pick[E any](r *rand.Rand, l ...E) E { return l[r.Intn(len(l))] }

// every hands over all lists of n numbers below m.
func every(n, m int, each func([]int)) {
	l := make([]int, n)
	for {
		each(l)
		i := 0
		for i < n && l[i] == m-1 {
			l[i] = 0
			i++
		}
		if i == n {
			return
		}
		l[i]++
	}
}

// rising hands over all lists of n numbers below m none of which is below the one ahead of it.
func rising(n, m int, each func([]int)) {
	l := make([]int, n)
	var fill func(i, least int)
	fill = func(i, least int) {
		if i == n {
			each(l)
			return
		}
		for x := least; x < m; x++ {
			l[i] = x
			fill(i+1, x)
		}
	}
	fill(0, 0)
}

// small is the shape of the chapter's examples.
func small() api.Shape { return api.Shape{K: 2, M: 1, Block: 4} }

// shapes are such as have few drives.
func shapes() []api.Shape {
	return []api.Shape{{K: 1, M: 1, Block: 1}, small(), {K: 2, M: 2, Block: 3}, {K: 3, M: 1, Block: 2}, {K: 3, M: 2, Block: 4}}
}

// theStore is the name of the store that the tests play with.
func theStore() [8]byte { return [8]byte{7, 7: 9} }

// What may be, in the words of the page, reckoned without bounds.

func number(n int) *big.Int { return big.NewInt(int64(n)) }

func from(least, n, greatest int) bool {
	return number(least).Cmp(number(n)) <= 0 && number(n).Cmp(number(greatest)) <= 0
}

func isShape(s api.Shape) bool {
	n := new(big.Int).Add(number(s.K), number(s.M))
	return from(1, s.M, s.K) && n.Cmp(number(255)) <= 0 && from(1, s.Block, 65536)
}

func isSet(set *api.Set) bool {
	return isShape(set.Shape) && len(set.Disks) == set.Shape.K+set.Shape.M && from(1, set.Last.Epoch, 4294967295) && from(0, set.Last.Count, 4294967295)
}

// nameOf is the name of a key's file.
func nameOf(key string) string { return "o" + fmt.Sprintf("%x", key) }

var objectName = regexp.MustCompile(`^o([0-9a-f]{2}){1,255}$`)

// keyOf is the key whose file has that name, if there is one.
func keyOf(name string) (string, bool) {
	if !objectName.MatchString(name) || strings.HasSuffix(name, "\n") {
		return "", false
	}
	key, err := hex.DecodeString(name[1:])
	return string(key), err == nil
}

// shardsOf are the shards of an object.
func shardsOf(h api.Head, data []byte) []api.Shard {
	shards, err := stripe.Split(h, data)
	if err != 0 {
		panic(fmt.Sprint("no object: ", h, err))
	}
	return shards
}

// formOf is the bytes of a shard's file.
func formOf(s api.Shard) []byte {
	b, err := frame.Encode(s)
	if err != 0 {
		panic(fmt.Sprint("no shard: ", s.Head, err))
	}
	return b
}

// subject is a drive that tells all that became of it.
type subject interface {
	api.Disk
	chart() string
}

// spy is a drive that writes down what it is asked, and answers as it was told to.
type spy struct {
	names  []string             // what List tells, beside whatever number
	files  map[string][]byte    // what Read tells, beside whatever number
	list   api.Errno            // what List answers
	reads  map[string]api.Errno // what Read answers of these names; of the others OK, or ErrMissing where there is no file
	struck int                  // in the round of this number the power goes: 1, 2, ..
	over   func(round int)      // is told when a round is over
	rounds int
	asked  []string
}

func (s *spy) ask(says string, args ...any) { s.asked = append(s.asked, fmt.Sprintf(says, args...)) }

func (s *spy) Create(name string) api.Errno              { s.ask("Create %q", name); return 0 }
func (s *spy) Append(name string, data []byte) api.Errno { s.ask("Append %q %x", name, data); return 0 }
func (s *spy) Sync(name string) api.Errno                { s.ask("Sync %q", name); return 0 }
func (s *spy) Rename(old, to string) api.Errno           { s.ask("Rename %q %q", old, to); return 0 }
func (s *spy) Remove(name string) api.Errno              { s.ask("Remove %q", name); return 0 }
func (s *spy) SyncDir() api.Errno                        { s.ask("SyncDir"); return 0 }
func (s *spy) List() ([]string, api.Errno)               { s.ask("List"); return s.names, s.list }

func (s *spy) Read(name string) ([]byte, api.Errno) {
	s.ask("Read %q", name)
	b, is := s.files[name]
	err, told := s.reads[name]
	if !is && !told {
		return nil, 110
	}
	return b, err
}

func (s *spy) Struck() bool {
	s.rounds++
	s.ask("Struck")
	return s.rounds == s.struck
}

func (s *spy) Rest(off bool) {
	s.ask("Rest %v", off)
	if s.over != nil {
		s.over(s.rounds)
	}
}

func (s *spy) chart() string { return strings.Join(s.asked, "; ") }

// fail makes the reading of this key answer so.
func (s *spy) fail(key string, err api.Errno) *spy {
	if s.reads == nil {
		s.reads = map[string]api.Errno{}
	}
	s.reads[nameOf(key)] = err
	return s
}

// lay lays a file onto the drive, and its name to those that it tells.
func (s *spy) lay(key string, b []byte) *spy {
	if s.files == nil {
		s.files = map[string][]byte{}
	}
	s.files[nameOf(key)] = b
	s.names = append(s.names, nameOf(key))
	return s
}

// What a drive is asked by Key; by All in the first round, and in both, if it told these keys.
const (
	asksOne  = "Read \"o61\"; Struck; Rest false"
	asksOnce = "List; Struck; Rest false"
)

func asksTwice(keys ...string) string {
	text := asksOnce
	for _, key := range keys {
		text += fmt.Sprintf("; Read %q", nameOf(key))
	}
	return text + "; Struck; Rest false"
}

// patient is a wound, of which all can be told.
type patient struct{ *wound.Wound }

func (p patient) chart() string {
	return fmt.Sprint(p.Image(), p.Safe(), p.Pending(), p.Used(), p.Calls(), p.Struck(), p.On())
}

// scene is all that a Key or an All is handed.
type scene struct {
	set         *api.Set
	disks       []subject
	done        chan struct{}
	key, prefix string
}

// sceneOf is the scene of a store over such drives, of which nothing is stopped; it is asked of the key "a", and of all.
func sceneOf(shape api.Shape, disks []subject) scene {
	return scene{
		set:   &api.Set{Disks: disksOf(disks), Shape: shape, Store: theStore(), Last: api.Gen{Epoch: 3, Count: 5}},
		disks: disks,
		key:   "a",
	}
}

// disksOf are the subjects as a caller hands them in.
func disksOf(l []subject) []api.Disk {
	disks := make([]api.Disk, len(l))
	for i, s := range l {
		if s != nil {
			disks[i] = s
		}
	}
	return disks
}

// A finding in the words of the chapter: what is sure is asked of all that the silent places could show.

// shown is what a place shows; its letter is that of the chapter's examples, g of a writing.
type shown struct {
	letter             byte
	epoch, count, size int
}

func (a shown) newer(b shown) bool {
	if a.epoch != b.epoch {
		return a.epoch > b.epoch
	}
	if a.count != b.count {
		return a.count > b.count
	}
	return a.size > b.size
}

// judge is the page's Judge: v and the writing, a for absent, u for unknown.
func judge(shape api.Shape, l []shown) (byte, shown) {
	often, hidden := map[shown]int{}, 0
	for _, x := range l {
		switch x.letter {
		case 'g':
			often[x]++
		case 'x', 's':
			hidden++
		}
	}
	best, some := shown{}, false
	for x, places := range often {
		if places >= shape.K && (!some || x.newer(best)) {
			best, some = x, true
		}
	}
	switch {
	case some:
		return 'v', best
	case hidden <= shape.M:
		return 'a', shown{}
	}
	return 'u', shown{}
}

// couldShow are all kinds of things that a silent place could show: nothing, something spoilt, each writing that is shown, and others, newer and older than each of them.
func couldShow(l []shown) []shown {
	g := func(epoch, count, size int) shown { return shown{'g', epoch, count, size} }
	could := []shown{{letter: '-'}, {letter: 'x'}, g(math.MaxInt, math.MaxInt, math.MaxInt), g(math.MinInt, math.MinInt, math.MinInt)}
	for _, x := range l {
		if x.letter == 'g' {
			could = append(could, x, g(x.epoch, x.count, x.size+1), g(x.epoch, x.count, x.size-1), g(x.epoch, x.count+1, 0))
		}
	}
	slices.SortFunc(could, func(a, b shown) int { return strings.Compare(fmt.Sprint(a), fmt.Sprint(b)) })
	return slices.Compact(could)
}

// stays tells whether Judge says the same whatever the silent places show instead. It hangs on how many show what, not on which: so of like choices one is tried. Of many silent places not all is tried: they show one thing, all but one of them, or half of them another one.
func stays(shape api.Shape, l []shown) bool {
	kind, writing := judge(shape, l)
	var silent []int
	for i, x := range l {
		if x.letter == 's' {
			silent = append(silent, i)
		}
	}
	same := true
	could := couldShow(l)
	try := func(choice func(i int) shown) {
		filled := slices.Clone(l)
		for i, place := range silent {
			filled[place] = choice(i)
		}
		nowKind, nowWriting := judge(shape, filled)
		same = same && nowKind == kind && nowWriting == writing
	}
	if len(silent) <= 3 {
		rising(len(silent), len(could), func(choice []int) { try(func(i int) shown { return could[choice[i]] }) })
		return same
	}
	for _, one := range could {
		for _, other := range could {
			for _, from := range []int{1, len(silent) / 2, len(silent) - 1} {
				try(func(i int) shown {
					if i < from {
						return one
					}
					return other
				})
			}
		}
	}
	return same
}

var judged = map[string]api.Finding{} // of lists alike but for their order, since the judging of all that could be takes its time

// findingByHand is what the places show of a key, in the words of the chapter.
func findingByHand(shape api.Shape, key string, l []shown) api.Finding {
	l = slices.Clone(l)
	slices.SortFunc(l, func(a, b shown) int { return strings.Compare(fmt.Sprint(a), fmt.Sprint(b)) })
	text := fmt.Sprint(shape, l)
	f, is := judged[text]
	if !is {
		f = makeFinding(shape, l)
		judged[text] = f
	}
	f.Key = key
	return f
}

func makeFinding(shape api.Shape, l []shown) api.Finding {
	kind, writing := judge(shape, l)
	f := api.Finding{Kind: api.IsMaybe}
	for _, x := range l {
		switch {
		case x.letter == 'x':
			f.Spoilt++
		case x.letter == 's':
			f.Silent++
		case x.letter == 'g' && kind == 'v' && x == writing:
			f.Whole++
		case x.letter == 'g':
			f.Stale++
		}
	}
	if kind == 'v' {
		f.Gen = api.Gen{Epoch: writing.epoch, Count: writing.count}
	}
	switch {
	case kind == 'v' && stays(shape, l):
		f.Kind = api.IsSure
	case kind == 'a' && stays(shape, l):
		f.Kind = api.IsNone
	}
	return f
}

// Key and All in the words of the chapter: the jobs of a round one behind the other, the last drive first.

func (s scene) stopped() bool {
	if len(s.done) > 0 {
		return true
	}
	select {
	case <-s.done:
		return true
	default:
		return false
	}
}

func (s scene) round(job func(i int, d api.Disk)) {
	for i, d := range slices.Backward(s.disks) {
		if d != nil {
			job(i, d)
		}
	}
	off := false
	for _, d := range s.disks {
		if d != nil && d.Struck() {
			off = true
		}
	}
	for _, d := range s.disks {
		if d != nil {
			d.Rest(off)
		}
	}
}

// show is what a drive shows of the key at a place, and the number of its Read.
func (s scene) show(d api.Disk, key string, place int) (shown, api.Errno) {
	b, err := d.Read(nameOf(key))
	switch err {
	case 0:
	case 110:
		return shown{letter: '-'}, err
	default:
		return shown{letter: 's'}, err
	}
	x, no := frame.Parse(b)
	if no == 0 && x.Store == s.set.Store && x.Shape == s.set.Shape && x.Key == key && x.Index == place {
		return shown{'g', x.Gen.Epoch, x.Gen.Count, x.Size}, 0
	}
	return shown{letter: 'x'}, 0
}

func (s scene) keyByHand() (api.Finding, api.Errno) {
	switch {
	case s.set == nil:
		return api.Finding{}, 1
	case !isSet(s.set):
		return api.Finding{}, 2
	case !from(1, len(s.key), 255):
		return api.Finding{}, 90
	case s.stopped():
		return api.Finding{}, 160
	}
	l := slices.Repeat([]shown{{letter: 's'}}, len(s.disks))
	down := false
	s.round(func(i int, d api.Disk) {
		x, err := s.show(d, s.key, i)
		l[i] = x
		down = down || err == 122
	})
	if down {
		return api.Finding{}, 122
	}
	return findingByHand(s.set.Shape, s.key, l), 0
}

func (s scene) allByHand() ([]api.Finding, api.Errno) {
	switch {
	case s.set == nil:
		return nil, 1
	case !isSet(s.set):
		return nil, 2
	case s.stopped():
		return nil, 160
	}
	told := make([][]string, len(s.disks)) // the wanted keys, as each drive told them
	mute := slices.Repeat([]bool{true}, len(s.disks))
	well, down := 0, false
	s.round(func(i int, d api.Disk) {
		names, err := d.List()
		if err == 0 {
			well++
			mute[i] = false
			told[i] = wantedOf(names, s.prefix)
		}
		down = down || err == 122
	})
	switch {
	case down:
		return nil, 122
	case well < s.set.Shape.K:
		return nil, 170
	case s.stopped():
		return nil, 160
	}
	seen := map[string][]shown{}
	for _, key := range slices.Concat(told...) {
		seen[key] = slices.Repeat([]shown{{letter: '-'}}, len(s.disks))
		for i := range s.disks {
			if mute[i] {
				seen[key][i].letter = 's'
			}
		}
	}
	s.round(func(i int, d api.Disk) {
		for _, key := range told[i] {
			x, err := s.show(d, key, i)
			seen[key][i] = x
			down = down || err == 122
		}
	})
	if down {
		return nil, 122
	}
	var all []api.Finding
	for key, l := range seen {
		all = append(all, findingByHand(s.set.Shape, key, l))
	}
	slices.SortFunc(all, func(a, b api.Finding) int { return strings.Compare(a.Key, b.Key) })
	return all, 0
}

// wantedOf are the keys of objects' names that begin with the prefix, rising, each once.
func wantedOf(names []string, prefix string) []string {
	var keys []string
	for _, name := range names {
		if key, is := keyOf(name); is && strings.HasPrefix(key, prefix) && !slices.Contains(keys, key) {
			keys = append(keys, key)
		}
	}
	slices.Sort(keys)
	return keys
}

// unturned wants the set as it was when the call has ended.
func (s scene) unturned(t *testing.T, call func()) {
	t.Helper()
	if s.set == nil {
		call()
		return
	}
	was, disks := *s.set, slices.Clone(s.set.Disks)
	call()
	fatalUnless(t, slices.Equal(disks, s.set.Disks) && s.set.Shape == was.Shape && s.set.Store == was.Store && s.set.Last == was.Last, "the set was %v, and is %v", was, *s.set)
}

// one calls Key, and wants the set as it was.
func (s scene) one(t *testing.T) (f api.Finding, err api.Errno) {
	t.Helper()
	s.unturned(t, func() { f, err = audit.Key(s.set, s.done, s.key) })
	return f, err
}

// all calls All, and wants the set as it was.
func (s scene) all(t *testing.T) (l []api.Finding, err api.Errno) {
	t.Helper()
	s.unturned(t, func() { l, err = audit.All(s.set, s.done, s.prefix) })
	return l, err
}

// wantSameCharts wants the drives to have come to what those by hand have come to.
func wantSameCharts(t *testing.T, says string, mine, theirs scene) {
	t.Helper()
	for i, s := range mine.disks {
		if s != nil && s.chart() != theirs.disks[i].chart() {
			t.Fatalf("%s: the drive %d comes to\n%s\nnot\n%s", says, i, s.chart(), theirs.disks[i].chart())
		}
	}
}

// checkKey holds Key against the chapter's words, played on drives that are like its own: anew makes them.
func checkKey(t *testing.T, anew func() scene) (api.Finding, api.Errno) {
	t.Helper()
	mine, theirs := anew(), anew()
	want, no := theirs.keyByHand()
	f, err := mine.one(t)
	if err != no || f != want {
		t.Fatalf("Key(%v, %q) = %+v, %d, not %+v, %d; the drives by hand, when all was over:\n%s", mine.set, mine.key, f, err, want, no, charts(theirs.disks))
	}
	wantSameCharts(t, fmt.Sprint("Key = ", int(err)), mine, theirs)
	return f, err
}

// checkAll holds All against the chapter's words.
func checkAll(t *testing.T, anew func() scene) ([]api.Finding, api.Errno) {
	t.Helper()
	mine, theirs := anew(), anew()
	want, no := theirs.allByHand()
	l, err := mine.all(t)
	if err != no || !slices.Equal(l, want) {
		t.Fatalf("All(%v, %q) = %+v, %d, not %+v, %d; the drives by hand, when all was over:\n%s", mine.set, mine.prefix, l, err, want, no, charts(theirs.disks))
	}
	wantSameCharts(t, fmt.Sprint("All = ", int(err)), mine, theirs)
	return l, err
}

func charts(l []subject) string {
	var text []string
	for _, s := range l {
		if s == nil {
			text = append(text, "none")
		} else {
			text = append(text, s.chart())
		}
	}
	return strings.Join(text, "\n")
}

// spies are so many drives, each as the function says.
func spies(n int, anew func(i int) *spy) []subject {
	l := make([]subject, n)
	for i := range l {
		if s := anew(i); s != nil {
			l[i] = s
		}
	}
	return l
}

// ward is so many wounds over empty drives of that room, and a set of them.
func ward(shape api.Shape, room int) (*api.Set, []*wound.Wound) {
	set := &api.Set{Shape: shape, Store: theStore(), Last: api.Gen{Epoch: 1}}
	var w []*wound.Wound
	for range shape.K + shape.M {
		w = append(w, wound.New(drive.New(room)))
		set.Disks = append(set.Disks, w[len(w)-1])
	}
	return set, w
}

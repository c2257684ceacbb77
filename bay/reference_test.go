package bay_test

import (
	"bytes"
	"fmt"
	"math/rand"
	"slices"
	"strings"
	"testing"

	"cairn/api"
	"cairn/atomic"
	"cairn/bay"
	"cairn/drive"
	"cairn/frame"
	"cairn/wound"
)

var (
	_ api.Disk = (*spy)(nil)
	_ api.Disk = (*world)(nil)
)

func fatalUnless(t *testing.T, is bool, says string, args ...any) {
	t.Helper()
	if !is {
		t.Fatalf(says, args...)
	}
}

// spy is a drive that writes down what it is asked, and answers as it was told to.
type spy struct {
	answers []api.Errno       // of its calls, one behind the other; OK behind the last of them
	names   []string          // what List tells, beside whatever number
	files   map[string][]byte // what Read tells, beside whatever number
	asked   []string
}

func (s *spy) ask(says string, args ...any) api.Errno {
	i := len(s.asked)
	s.asked = append(s.asked, fmt.Sprintf(says, args...))
	if i < len(s.answers) {
		return s.answers[i]
	}
	return 0
}

func (s *spy) Create(name string) api.Errno              { return s.ask("Create %q", name) }
func (s *spy) Append(name string, data []byte) api.Errno { return s.ask("Append %q %q", name, data) }
func (s *spy) Sync(name string) api.Errno                { return s.ask("Sync %q", name) }
func (s *spy) Rename(old, to string) api.Errno           { return s.ask("Rename %q %q", old, to) }
func (s *spy) Remove(name string) api.Errno              { return s.ask("Remove %q", name) }
func (s *spy) SyncDir() api.Errno                        { return s.ask("SyncDir") }
func (s *spy) Read(name string) ([]byte, api.Errno)      { return s.files[name], s.ask("Read %q", name) }
func (s *spy) List() ([]string, api.Errno)               { return s.names, s.ask("List") }
func (s *spy) Struck() bool                              { return s.ask("Struck") != 0 }
func (s *spy) Rest(off bool)                             { s.ask("Rest %v", off) }

// nameOf is the name of the file of a key, by chapter 9's words.
func nameOf(key string) string { return fmt.Sprintf("o%x", key) }

func isKey(key string) bool { return len(key) >= 1 && len(key) <= 255 }

// keysOf are the keys of the names, rising, each once: a key whose name is among them.
func keysOf(names []string) []string {
	var keys []string
	for _, name := range names {
		var key string
		if n, _ := fmt.Sscanf(name, "o%x", &key); n == 1 && isKey(key) && name == nameOf(key) && !slices.Contains(keys, key) {
			keys = append(keys, key)
		}
	}
	slices.SortFunc(keys, strings.Compare)
	return keys
}

// isWanted is the chapter's word, field by field.
func isWanted(h, want api.Head) bool {
	h.Size, h.Gen = want.Size, want.Gen
	return h == want
}

// reading is one of Look and Glance, and what it shows of bytes by P14.2's or P14.3's words.
type reading struct {
	says  string
	call  func(d api.Disk, want api.Head) api.Seen
	words func(b []byte, want api.Head) api.Seen
}

func readings() []reading {
	return []reading{{"Look", bay.Look, lookOf}, {"Glance", bay.Glance, glanceOf}}
}

func lookOf(b []byte, want api.Head) api.Seen {
	if s, err := frame.Parse(b); err == 0 && isWanted(s.Head, want) {
		return api.Seen{Kind: 2, Shard: s}
	}
	return api.Seen{Kind: 3}
}

func glanceOf(b []byte, want api.Head) api.Seen {
	h, err := frame.ParseHead(b)
	if err == 0 && isWanted(h, want) {
		if n, err := frame.Length(h); err == 0 && n == len(b) {
			return api.Seen{Kind: 2, Shard: api.Shard{Head: h}}
		}
	}
	return api.Seen{Kind: 3}
}

// wordsOf is P14.2, or P14.3, of a drive that is there, whose Read of the wanted key's file answers this.
func (r reading) wordsOf(b []byte, err api.Errno, want api.Head) (seen api.Seen, asked []string) {
	if !isKey(want.Key) {
		return api.Seen{Kind: 1}, nil
	}
	asked = []string{fmt.Sprintf("Read %q", nameOf(want.Key))}
	switch err {
	case 110:
		return api.Seen{Kind: 1}, asked
	case 0:
		return r.words(b, want), asked
	}
	return api.Seen{Kind: 4, Err: err}, asked
}

// wordsOfStore is P14.1 and P13.1: what a drive of these answers is asked, and what comes of it.
func wordsOfStore(s api.Shard, answers []api.Errno) (asked []string, err api.Errno) {
	form, err := frame.Encode(s)
	if err != 0 {
		return nil, err
	}
	for i, call := range []string{`Create "t"`, fmt.Sprintf(`Append "t" %q`, form), `Sync "t"`, fmt.Sprintf(`Rename "t" %q`, nameOf(s.Key)), `SyncDir`} {
		asked = append(asked, call)
		if answers[i] != 0 {
			return asked, answers[i]
		}
	}
	return asked, 0
}

// wordsOfDrop is P14.4 and P13.2.
func wordsOfDrop(key string, answers []api.Errno) (asked []string, err api.Errno) {
	if !isKey(key) {
		return nil, 90
	}
	asked = []string{fmt.Sprintf("Remove %q", nameOf(key))}
	if answers[0] != 0 && answers[0] != 110 {
		return asked, answers[0]
	}
	return append(asked, "SyncDir"), answers[1]
}

func sameSeen(a, b api.Seen) bool {
	return a.Kind == b.Kind && a.Err == b.Err && a.Shard.Head == b.Shard.Head && slices.EqualFunc(a.Shard.Blocks, b.Shard.Blocks, bytes.Equal)
}

func wantSeen(t *testing.T, says string, got, want api.Seen) {
	t.Helper()
	fatalUnless(t, sameSeen(got, want), "%s = %v, not %v", says, got, want)
}

func wantNumber(t *testing.T, says string, got, want api.Errno) {
	t.Helper()
	fatalUnless(t, got == want, "%s = %d, not %d", says, got, want)
}

func wantKeys(t *testing.T, d api.Disk, want []string, number api.Errno) {
	t.Helper()
	keys, err := bay.Keys(d)
	fatalUnless(t, slices.Equal(keys, want) && err == number, "Keys = %q, %d, not %q, %d", keys, err, want, number)
}

func wantAsked(t *testing.T, s *spy, want []string) {
	t.Helper()
	fatalUnless(t, slices.Equal(s.asked, want), "with the answers %v the drive was asked %q, not %q", s.answers, s.asked, want)
}

// plainShard is the shard of chapter 8's examples.
func plainShard() api.Shard {
	return api.Shard{
		Head:   api.Head{Store: [8]byte{1, 1, 1, 1, 1, 1, 1, 1}, Shape: api.Shape{K: 2, M: 1, Block: 4}, Key: "a", Size: 10, Index: 2, Gen: api.Gen{Epoch: 3, Count: 5}},
		Blocks: [][]byte{{9, 8, 7, 6}, {5}},
	}
}

// with is the head of chapter 8's examples, changed.
func with(change func(h *api.Head)) api.Head {
	h := plainShard().Head
	change(&h)
	return h
}

func mustEncode(s api.Shard) []byte {
	form, err := frame.Encode(s)
	if err != 0 {
		panic(fmt.Sprintf("%v is refused: %d", s, err))
	}
	return form
}

func source(seed int64) *rand.Rand { return rand.New(rand.NewSource(seed)) }

// pick is one of the list.
func pick[E any](r *rand.Rand, l ...E) E { return l[r.Intn(len(l))] }

func someText(r *rand.Rand, n int) string {
	b := make([]byte, n)
	r.Read(b)
	return string(b)
}

// filled is a shard of that head, with any bytes.
func filled(r *rand.Rand, h api.Head) api.Shard {
	s := api.Shard{Head: h}
	lengths, err := frame.Sizes(h.Shape, h.Size)
	if err != 0 {
		panic(fmt.Sprintf("%v is refused: %d", h, err))
	}
	for _, n := range lengths {
		s.Blocks = append(s.Blocks, []byte(someText(r, n)))
	}
	return s
}

// someShard is one of few bytes, of that key, of one of few stores, shapes and places.
func someShard(r *rand.Rand, key string) api.Shard {
	k := 1 + r.Intn(2)
	h := api.Head{
		Store: [8]byte{pick(r, byte(0), 0, 0, 1)},
		Shape: api.Shape{K: k, M: 1, Block: 1 + r.Intn(2)},
		Key:   key,
		Index: r.Intn(k + 1),
		Size:  r.Intn(7),
		Gen:   api.Gen{Epoch: 1 + r.Intn(3), Count: 1 + r.Intn(3)},
	}
	return filled(r, h)
}

// given is a shard that was handed to a Store, and its form.
type given struct {
	shard api.Shard
	form  string
}

// world is a wound that began empty, on which nothing is done but what P14.7 names; and of each key what its file may come to.
type world struct {
	*wound.Wound
	may    map[string][]string // of each key the forms that its file may have; "none": there may be none
	handed map[string][]given
	behind []deed
	seen   map[string]int // how often what happened, so that a test can ask whether enough did
}

func newWorld(room int) *world {
	return &world{Wound: wound.New(drive.New(room)), may: map[string][]string{}, handed: map[string][]given{}, seen: map[string]int{}}
}

// has is the bytes of a key's file, as a text.
func (w *world) has(key string) string {
	b, err := w.Drive.Read(nameOf(key))
	if err != 0 {
		return "none"
	}
	return string(b)
}

// turn says what the key's file may come to behind a call that would make it this.
func (w *world) turn(key, to string, err api.Errno) {
	if err == 0 {
		w.may[key] = []string{to}
	} else {
		w.may[key] = append(slices.Clone(w.mayCome(key)), to)
	}
}

// mayCome is what a key's file may come to; of one that nothing was done to, none alone.
func (w *world) mayCome(key string) []string {
	if w.may[key] == nil {
		return []string{"none"}
	}
	return w.may[key]
}

// nearWants are the head, and what is near to it: each part of a want that may make it another one, and those that say nothing.
func nearWants(h api.Head) []api.Head {
	l := slices.Repeat([]api.Head{h}, 8)
	l[1].Store[7]++
	l[2].Shape.K++
	l[3].Shape.M++
	l[4].Shape.Block++
	l[5].Index = (h.Index + 1) % (h.Shape.K + h.Shape.M)
	l[6].Size++
	l[7].Gen = api.Gen{Epoch: -1, Count: 77}
	return l
}

// wants are what is looked for of a key: what is near to the shard whose form its file has, and the heads of those that were handed in last.
func (w *world) wants(key, has string) []api.Head {
	var l []api.Head
	shards := w.handed[key]
	if i := slices.IndexFunc(shards, func(g given) bool { return g.form == has }); i >= 0 {
		l = nearWants(shards[i].shard.Head)
	}
	for _, g := range shards[max(0, len(shards)-3):] {
		l = append(l, g.shard.Head)
	}
	return l
}

// check looks at every key: P14.7, P14.8 and P14.10.
func (w *world) check(t *testing.T) {
	t.Helper()
	var keys []string
	for key := range w.handed {
		has := w.has(key)
		fatalUnless(t, slices.Contains(w.mayCome(key), has), "the file of %q has %q, and may come to %q; behind %v", key, has, w.mayCome(key), w.behind)
		for _, want := range w.wants(key, has) {
			w.checkWant(t, has, want)
		}
		if has != "none" {
			keys = append(keys, key)
		}
	}
	slices.Sort(keys)
	wantKeys(t, w.Drive, keys, api.OK)
}

// checkWant holds what the drive itself shows of one want against the shards that were handed in: without any word of layer 8 but their forms.
func (w *world) checkWant(t *testing.T, has string, want api.Head) {
	t.Helper()
	look, glance := api.Seen{Kind: api.SeenSpoilt}, api.Seen{Kind: api.SeenSpoilt}
	if has == "none" {
		look, glance = api.Seen{Kind: api.SeenNone}, api.Seen{Kind: api.SeenNone}
	}
	others := 0
	for _, g := range w.handed[want.Key] {
		if !isWanted(g.shard.Head, want) {
			others++
		} else if g.form == has {
			look, glance = api.Seen{Kind: api.SeenShard, Shard: g.shard}, api.Seen{Kind: api.SeenShard, Shard: api.Shard{Head: g.shard.Head}}
		}
	}
	if got := bay.Look(w.Drive, want); !sameSeen(got, look) {
		t.Fatalf("Look of %v = %v, not %v; behind %v", want, got, look, w.behind)
	}
	if got := bay.Glance(w.Drive, want); !sameSeen(got, glance) {
		t.Fatalf("Glance of %v = %v, not %v; behind %v", want, got, glance, w.behind)
	}
	fatalUnless(t, look.Kind != api.SeenSpoilt || others > 0, "%v is spoilt; behind %v", want, w.behind)
	w.seen[kinds[look.Kind]]++
}

// kinds are what a drive shows, in words.
var kinds = []string{"", "none", "shard", "spoilt", "silent"}

// others is what stands of all keys but this one.
func (w *world) others(key string) string {
	text := ""
	for _, f := range w.Image() {
		if f.Name != nameOf(key) && f.Name != "t" {
			text += fmt.Sprintf("%q:%q ", f.Name, f.Data)
		}
	}
	return text
}

// deed is a call of the chapter, or what strikes its drive.
type deed struct {
	says string
	do   func(t *testing.T, w *world)
}

func (d deed) String() string { return "(" + d.says + ")" }

// play makes the deeds, and looks behind each of them whether the promises hold.
func (w *world) play(t *testing.T, deeds ...deed) {
	t.Helper()
	for _, d := range deeds {
		w.behind = append(w.behind, d)
		d.do(t, w)
		w.check(t)
	}
}

func store(s api.Shard) deed {
	return deed{fmt.Sprintf("Store %v", s), func(t *testing.T, w *world) {
		t.Helper()
		others := w.others(s.Key)
		form := string(mustEncode(s))
		w.handed[s.Key] = append(w.handed[s.Key], given{s, form})
		err := bay.Store(w, s)
		w.turn(s.Key, form, err)
		fatalUnless(t, w.others(s.Key) == others, "Store = %d makes of %s %s; behind %v", err, others, w.others(s.Key), w.behind)
		w.seen[fmt.Sprintf("Store %d", err)]++
		if got := bay.Look(w.Drive, s.Head); err == 0 && !sameSeen(got, api.Seen{Kind: api.SeenShard, Shard: s}) {
			t.Fatalf("Look = %v; behind %v", got, w.behind)
		}
	}}
}

func drop(key string) deed {
	return deed{fmt.Sprintf("Drop %q", key), func(t *testing.T, w *world) {
		t.Helper()
		others := w.others(key)
		err := bay.Drop(w, key)
		w.turn(key, "none", err)
		fatalUnless(t, w.others(key) == others, "Drop = %d makes of %s %s; behind %v", err, others, w.others(key), w.behind)
		w.seen[fmt.Sprintf("Drop %d there %v", err, w.has(key) != "none")]++
	}}
}

// look is each reading with the want, of the wound itself: what is refused is silent, the rest is as the drive alone shows it.
func look(want api.Head) deed {
	return deed{fmt.Sprintf("Look %v", want), func(t *testing.T, w *world) {
		t.Helper()
		for _, r := range readings() {
			got, must := r.call(w, want), r.call(w.Drive, want)
			if got.Kind == api.SeenSilent {
				fatalUnless(t, slices.Contains([]api.Errno{api.ErrIO, api.ErrOffline, api.ErrDown}, got.Err), "%s = %v; behind %v", r.says, got, w.behind)
				must = api.Seen{Kind: api.SeenSilent, Err: got.Err}
			}
			fatalUnless(t, sameSeen(got, must), "%s = %v, not %v; behind %v", r.says, got, must, w.behind)
			w.seen[fmt.Sprintf("%s %s %d", r.says, kinds[got.Kind], got.Err)]++
		}
	}}
}

func sweep() deed {
	return deed{"Sweep", func(t *testing.T, w *world) {
		t.Helper()
		_, err := atomic.Sweep(w)
		w.seen[fmt.Sprintf("Sweep %d", err)]++
	}}
}

// lose is a loss of power with that fate, and the power's return.
func lose(f api.Fate) deed {
	return deed{fmt.Sprintf("lose %v", f), func(t *testing.T, w *world) {
		t.Helper()
		w.Rest(true)
		was := w.others("")
		w.Crash(f)
		w.Power(true)
		w.check(t)
		if w.others("") != was {
			w.seen["lost"]++
		}
		for key := range w.may {
			w.may[key] = []string{w.has(key)}
		}
	}}
}

// still is what strikes the drive and answers nothing.
func still(do func(w *world), says string, args ...any) deed {
	return deed{fmt.Sprintf(says, args...), func(_ *testing.T, w *world) { do(w) }}
}

// refuse makes the call of this number from now on a refused one.
func refuse(at, kind int) deed {
	return still(func(w *world) { w.Arm([]api.Fault{{At: at, Kind: kind}}) }, "refuse %d %d", at, kind)
}

// burn lets the power go ahead of the call of this number from now on.
func burn(call, inside int) deed {
	return still(func(w *world) { w.Rest(false); w.Fuse(0, call, inside) }, "burn %d %d", call, inside)
}

func offline(off bool) deed {
	return still(func(w *world) { w.Offline(off) }, "offline %v", off)
}

// power brings the power back, or takes it, while nothing is lost.
func power(on bool) deed {
	return still(func(w *world) { w.Power(on) }, "power %v", on)
}

// fates are all there are for so many changes of names, with some cuts of bytes.
func fates(pending int) []api.Fate {
	var all []api.Fate
	for kept := range 1 << pending {
		dirs := make([]bool, pending)
		for i := range dirs {
			dirs[i] = kept>>i&1 == 1
		}
		for _, cut := range []int{0, 20, 999} {
			all = append(all, api.Fate{Dirs: dirs, Cuts: slices.Repeat([]int{cut}, 9)})
		}
	}
	return all
}

func someFate(r *rand.Rand) api.Fate {
	f := api.Fate{Dirs: make([]bool, r.Intn(12)), Cuts: make([]int, r.Intn(6))}
	for i := range f.Dirs {
		f.Dirs[i] = r.Intn(2) == 0
	}
	for i := range f.Cuts {
		f.Cuts[i] = pick(r, 0, 1, 36, 41, 45, 53, 99, -1)
	}
	return f
}

// someDeed is any of all there are.
func someDeed(r *rand.Rand, keys []string) deed {
	switch r.Intn(22) {
	case 0, 1, 2, 3, 4, 5, 6:
		return store(someShard(r, pick(r, keys...)))
	case 7, 8, 9:
		return drop(pick(r, keys...))
	case 10, 11:
		return sweep()
	case 12, 13, 14:
		return refuse(r.Intn(8), pick(r, api.FaultIO, api.FaultIO, api.FaultFull))
	case 15:
		return burn(r.Intn(7), pick(r, -1, 0, 1, 36, 45, 99))
	case 16:
		return offline(r.Intn(3) == 0)
	case 17:
		return power(r.Intn(3) != 0)
	case 18, 19:
		return look(someShard(r, pick(r, keys...)).Head)
	}
	return lose(someFate(r))
}

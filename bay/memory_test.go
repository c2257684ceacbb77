package bay_test

import (
	"bytes"
	"fmt"
	"slices"
	"strings"
	"sync"
	"testing"
	"time"

	"cairn/api"
	"cairn/bay"
	"cairn/drive"
	"cairn/wound"
)

// overwrite puts a thing everywhere into a list, and into the room behind it.
func overwrite[E any](l []E, with E) {
	l = l[:cap(l)]
	for i := range l {
		l[i] = with
	}
}

// roomy is a copy of a list with some room behind it, and that list with the room.
func roomy[E any](l []E, behind E) (list, all []E) {
	all = append(slices.Clone(l), behind, behind, behind)
	return all[:len(l)], all
}

// greedy is a drive that keeps what it is handed, with the room behind it, and what it told, and overwrites all of it whenever it is called.
type greedy struct {
	spy
	bytes [][]byte
	lists [][]string
}

func (g *greedy) spoil() {
	for _, b := range g.bytes {
		overwrite(b, 'Z')
	}
	for _, l := range g.lists {
		overwrite(l, "o7a7a")
	}
}

func (g *greedy) Append(name string, data []byte) api.Errno {
	err := g.spy.Append(name, data)
	g.bytes = append(g.bytes, data)
	g.spoil()
	return err
}

func (g *greedy) SyncDir() api.Errno {
	g.spoil()
	return g.spy.SyncDir()
}

func (g *greedy) Read(name string) ([]byte, api.Errno) {
	g.spoil()
	b := bytes.Clone(g.files[name])
	g.bytes = append(g.bytes, b)
	return b, 0
}

func (g *greedy) List() ([]string, api.Errno) {
	g.spoil()
	l := slices.Clone(g.names)
	g.lists = append(g.lists, l)
	return l, 0
}

// roomyShard is a copy of a shard whose lists have room behind them, and these lists with the room.
func roomyShard(s api.Shard) (roomier api.Shard, blocks [][]byte, all [][]byte) {
	for _, b := range s.Blocks {
		b, room := roomy(b, 77)
		roomier.Blocks, all = append(roomier.Blocks, b), append(all, room)
	}
	roomier.Head = s.Head
	roomier.Blocks, blocks = roomy(roomier.Blocks, []byte("behind"))
	return roomier, blocks, all
}

func clones(l [][]byte) [][]byte {
	c := make([][]byte, len(l))
	for i, b := range l {
		c[i] = bytes.Clone(b)
	}
	return c
}

func same(a, b [][]byte) bool { return slices.EqualFunc(a, b, bytes.Equal) }

// P14.11: a shard that is handed in is not changed, the room behind its lists neither, whatever the drive does to what it is given.
func TestShardsAreNotChanged(t *testing.T) {
	for _, s := range someShards() {
		for _, d := range []api.Disk{drive.New(1 << 22), wound.New(drive.New(1 << 22)), drive.New(10), &spy{answers: []api.Errno{0, 7}}, &greedy{}} {
			roomier, blocks, all := roomyShard(s)
			wasBlocks, wasAll := clones(blocks), clones(all)
			bay.Store(d, roomier)
			fatalUnless(t, same(blocks, wasBlocks) && same(all, wasAll), "a Store of %v to %T makes of its blocks %v", s, d, all)
		}
	}
}

// P14.11: a shard that is handed in is not kept: the caller's later changes say nothing.
func TestShardsAreNotKept(t *testing.T) {
	for _, s := range someShards() {
		d := drive.New(1 << 22)
		roomier, blocks, all := roomyShard(s)
		wantNumber(t, "Store", bay.Store(d, roomier), api.OK)
		for _, b := range all {
			overwrite(b, 'Z')
		}
		overwrite(blocks, nil)
		wantSeen(t, "Look", bay.Look(d, s.Head), api.Seen{Kind: api.SeenShard, Shard: s})
		d.Crash(api.Fate{})
		wantSeen(t, "Look", bay.Look(d, s.Head), api.Seen{Kind: api.SeenShard, Shard: s})
	}
}

// P14.11: what is answered is new memory, each block, and the room behind it: to overwrite it changes neither another answer nor the drive.
func TestShardsShownShareNoMemory(t *testing.T) {
	for _, s := range someShards() {
		d := drive.New(1 << 22)
		wantNumber(t, "Store", bay.Store(d, s), api.OK)
		want := api.Seen{Kind: api.SeenShard, Shard: s}
		for i := range min(len(s.Blocks), 3) {
			first, second := bay.Look(d, s.Head), bay.Look(d, s.Head)
			overwrite(first.Shard.Blocks[i], 'Z')
			first.Shard.Blocks[i] = s.Blocks[i]
			wantSeen(t, "the other blocks", first, want)
			wantSeen(t, "the other answer", second, want)
			overwrite(first.Shard.Blocks, nil)
			wantSeen(t, "the other answer", second, want)
			wantSeen(t, "Look", bay.Look(d, s.Head), want)
		}
	}
}

// P14.11: what a drive tells is neither changed nor kept: what it later does to it says nothing.
func TestWhatADriveTellsIsItsOwn(t *testing.T) {
	s := plainShard()
	form, all := roomy(mustEncode(s), 77)
	was := bytes.Clone(all)
	names, allNames := roomy([]string{"o62", "t", "o61", "o61", "l"}, "o7a")
	wasNames := slices.Clone(allNames)
	d := &spy{names: names, files: map[string][]byte{"o61": form, "o62": form}}
	look, glance := bay.Look(d, s.Head), bay.Glance(d, s.Head)
	keys, err := bay.Keys(d)
	told := walk(bay.All(d, s.Head), -1)
	fatalUnless(t, bytes.Equal(all, was) && slices.Equal(allNames, wasNames), "the drive's own became %v, %q", all, allNames)
	overwrite(form, 'Z')
	overwrite(names, "o7a")
	wantSeen(t, "Look", look, api.Seen{Kind: api.SeenShard, Shard: s})
	wantSeen(t, "Glance", glance, api.Seen{Kind: api.SeenShard, Shard: api.Shard{Head: s.Head}})
	fatalUnless(t, slices.Equal(keys, []string{"a", "b"}) && err == api.OK, "Keys = %q, %d", keys, err)
	fatalUnless(t, len(told) == 2 && told[0].key == "a" && told[1].key == "b", "the walk told %v", told)
	wantSeen(t, "the walk's", told[0].seen, look)
}

// P14.11: a walk goes by what was told at its beginning, though the drive overwrites that in the midst of it; each step's answer is its own.
func TestWalksKeepTheirOwn(t *testing.T) {
	a, b := plainShard(), plainShard()
	b.Key = "b"
	g := &greedy{spy: spy{names: []string{"o62", "o61"}, files: map[string][]byte{"o61": mustEncode(a), "o62": mustEncode(b)}}}
	want := []told{{"a", api.Seen{Kind: api.SeenShard, Shard: a}}, {"b", api.Seen{Kind: api.SeenShard, Shard: b}}}
	for range 3 {
		wantTold(t, bay.All(g, a.Head), want)
	}
	all := bay.All(g, a.Head)
	for key, seen := range all {
		for _, block := range seen.Shard.Blocks {
			overwrite(block, 'Z')
		}
		overwrite(seen.Shard.Blocks, []byte(key))
		g.spoil()
	}
	wantTold(t, all, want)
}

// P14.11: keys that are told are new memory.
func TestKeysShareNoMemory(t *testing.T) {
	d := shelf(t, "a", "b", "c")
	first, _ := bay.Keys(d)
	second, _ := bay.Keys(d)
	overwrite(first, "Z")
	fatalUnless(t, slices.Equal(second, []string{"a", "b", "c"}), "the other answer became %q", second)
	wantKeys(t, d, []string{"a", "b", "c"}, api.OK)
}

// With a kind that says that there is no shard, and with an error, every other result is zero.
func TestNothingBesideNothing(t *testing.T) {
	form := mustEncode(plainShard())
	for _, r := range readings() {
		for _, err := range numbers {
			for _, b := range [][]byte{form[:50], form} {
				d := &spy{answers: []api.Errno{err}, files: map[string][]byte{"o61": b}}
				got := r.call(d, with(func(h *api.Head) { h.Index = 1 }))
				fatalUnless(t, got.Shard.Head == api.Head{} && got.Shard.Blocks == nil && (got.Kind == api.SeenSilent || got.Err == api.OK), "%s = %v", r.says, got)
			}
		}
	}
	got := bay.Glance(shelf(t, "a"), plainShard().Head)
	fatalUnless(t, len(got.Shard.Blocks) == 0, "Glance shows the blocks %v", got.Shard.Blocks)
	keys, err := bay.Keys(&spy{answers: []api.Errno{5}, names: []string{"o61"}})
	fatalUnless(t, len(keys) == 0 && err == 5, "Keys = %q, %d", keys, err)
}

// reader is a drive of which nothing is written down: it may be read by many at once.
type reader struct {
	spy
}

func (r *reader) Read(name string) ([]byte, api.Errno) { return bytes.Clone(r.files[name]), 0 }
func (r *reader) List() ([]string, api.Errno)          { return slices.Clone(r.names), 0 }

// P14.6: walks through one iterator may go beside one another.
func TestWalksBesideOneAnother(t *testing.T) {
	d := &reader{spy{files: map[string][]byte{}}}
	var want []string
	for i := range 900 {
		s := plainShard()
		s.Key = fmt.Sprintf("%03d", i)
		d.names, d.files[nameOf(s.Key)] = append(d.names, nameOf(s.Key)), mustEncode(s)
		want = append(want, s.Key)
	}
	all := bay.All(d, plainShard().Head)
	var group sync.WaitGroup
	var wrong [16]string
	for i := range wrong {
		group.Go(func() {
			var keys []string
			for key, seen := range all {
				if seen.Kind != api.SeenShard || seen.Shard.Key != key {
					wrong[i] += fmt.Sprintf("%q: %v ", key, seen)
				}
				keys = append(keys, key)
			}
			if !slices.Equal(keys, want) {
				wrong[i] += fmt.Sprintf("%q", keys)
			}
		})
	}
	group.Wait()
	fatalUnless(t, wrong == [16]string{}, "walks hang on one another: %q", wrong)
}

// someCalls are calls of all six of a drive that is refused at times, and all they answered.
func someCalls(seed int64) string {
	r := source(seed)
	w := wound.New(drive.New(pick(r, 200, 1000)))
	var text strings.Builder
	for range 80 {
		w.Arm([]api.Fault{{At: r.Intn(12), Kind: api.FaultIO}})
		s := someShard(r, pick(r, "a", "b", "c"))
		fmt.Fprintln(&text, bay.Store(w, s), bay.Look(w, s.Head), bay.Glance(w, someShard(r, "a").Head), walk(bay.All(w, s.Head), 2))
		if r.Intn(3) == 0 {
			fmt.Fprintln(&text, bay.Drop(w, s.Key))
		}
		keys, err := bay.Keys(w)
		fmt.Fprintln(&text, keys, err, w.Calls(), w.Image(), w.Safe())
	}
	return text.String()
}

// Nothing is kept from call to call: drives that are worked on beside one another come out as each by itself.
func TestDrivesBesideOneAnother(t *testing.T) {
	const many = 20
	var alone, beside [many]string
	for i := range many {
		alone[i] = someCalls(int64(i))
	}
	var group sync.WaitGroup
	for i := range many {
		group.Go(func() { beside[i] = someCalls(int64(i)) })
	}
	group.Wait()
	fatalUnless(t, alone == beside, "drives hang on one another")
}

// W0: calls of much end, and in a short time: a drive with as many names as may be, the greatest shards.
func TestMuchEnds(t *testing.T) {
	begin := time.Now()
	files := make([]api.File, api.MaxFiles)
	for i := range files {
		s := plainShard()
		s.Key = fmt.Sprintf("%05d", len(files)-i)
		files[i] = api.File{Name: nameOf(s.Key), Data: mustEncode(s)}
	}
	d := drive.Load(api.MaxRoom, files)
	keys, err := bay.Keys(d)
	fatalUnless(t, len(keys) == api.MaxFiles && slices.IsSorted(keys) && err == api.OK, "%d keys, %d", len(keys), err)
	n := 0
	for key, seen := range bay.All(d, plainShard().Head) {
		fatalUnless(t, key == keys[n] && seen.Kind == api.SeenShard && seen.Shard.Key == key, "%q: %v", key, seen)
		n++
	}
	fatalUnless(t, n == len(keys), "a walk of %d steps", n)
	wantNumber(t, "Store", bay.Store(d, plainShard()), api.ErrMany)

	d = drive.New(api.MaxRoom)
	for _, shape := range []api.Shape{{K: 1, M: 1, Block: api.MaxBlock}, {K: 1, M: 1, Block: 256}} {
		s := filled(source(1), with(func(h *api.Head) { h.Shape, h.Size, h.Index = shape, api.MaxObject, 1 }))
		wantNumber(t, "Store", bay.Store(d, s), api.OK)
		wantSeen(t, "Look", bay.Look(d, s.Head), api.Seen{Kind: api.SeenShard, Shard: s})
		wantSeen(t, "Glance", bay.Glance(d, s.Head), api.Seen{Kind: api.SeenShard, Shard: api.Shard{Head: s.Head}})
	}
	fatalUnless(t, time.Since(begin) < 30*time.Second, "it took %v", time.Since(begin))
}

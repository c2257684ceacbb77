package bay_test

import (
	"bytes"
	"fmt"
	"maps"
	"slices"
	"strings"
	"testing"

	"cairn/api"
	"cairn/bay"
	"cairn/drive"
	"cairn/frame"
	"cairn/wound"
)

// P14.7, P14.8: long runs of all that may be done, refused and broken off anywhere, with losses of power and any fates.
func TestLongRuns(t *testing.T) {
	r := source(141)
	seen := map[string]int{}
	pools := [][]string{{"a"}, {"a", "b"}, {"a", "aa", "\x00"}, {"\x00", "\xff", "t", "l", "o61", strings.Repeat("k", 255)}}
	for range 900 {
		keys := pick(r, pools...)
		w := newWorld(pick(r, 90, 150, 300, 5000))
		w.check(t)
		for range 50 {
			w.play(t, someDeed(r, keys))
		}
		for what, n := range w.seen {
			seen[what] += n
		}
	}
	for _, what := range []string{
		"Store 0", "Store 120", "Store 111", "Store 121", "Store 122", "Drop 0 there false", "Drop 120 there true", "Drop 120 there false", "Drop 121 there true", "Drop 122 there true",
		"Sweep 0", "Sweep 120", "lost", "none", "shard", "spoilt",
		"Look none 0", "Look shard 0", "Look spoilt 0", "Look silent 121", "Look silent 122", "Glance none 0", "Glance shard 0", "Glance spoilt 0", "Glance silent 121", "Glance silent 122",
	} {
		fatalUnless(t, seen[what] > 50, "%s: %d times, of %v", what, seen[what], slices.Sorted(maps.Keys(seen)))
	}
}

// refusals are the call with none of its calls refused, and with each of the first so many.
func refusals(call deed, calls int) [][]deed {
	runs := [][]deed{{call}}
	for at := range calls {
		runs = append(runs, []deed{refuse(at, api.FaultIO), call})
	}
	return runs
}

// newer is a shard of that key and place, of another writing, with other bytes.
func newer(key string, index int, bytes ...byte) api.Shard {
	s := plainShard()
	s.Key, s.Index, s.Gen.Count, s.Size = key, index, 6, 2*len(bytes)
	s.Blocks = [][]byte{bytes}
	return s
}

// everyRefusal are the calls, each with each of its refusals: of one key another writing, another place, nothing; of another key.
func everyRefusal() [][]deed {
	return slices.Concat(
		refusals(store(newer("a", 2, 3, 3)), 5), refusals(store(newer("a", 1, 3, 3)), 5), refusals(store(newer("b", 2, 1)), 5),
		refusals(drop("a"), 2), refusals(sweep(), 3),
	)
}

func beginning(t *testing.T) *world {
	t.Helper()
	w := newWorld(1000)
	w.play(t, store(plainShard()))
	return w
}

// everyLoss plays the run, and behind it each loss of power there is, on a world of its own each time.
func everyLoss(t *testing.T, run ...deed) {
	t.Helper()
	first := beginning(t)
	first.play(t, run...)
	for _, f := range fates(first.Pending()) {
		w := beginning(t)
		for _, d := range run {
			w.behind = append(w.behind, d)
			d.do(t, w)
		}
		w.play(t, lose(f))
	}
}

// P14.7, P14.8: every run of two calls, each refused at each of its calls, and every loss of power behind it.
func TestEveryShortRun(t *testing.T) {
	kinds := everyRefusal()
	for _, a := range kinds {
		everyLoss(t, a...)
		for _, b := range kinds {
			everyLoss(t, slices.Concat(a, b)...)
		}
	}
}

// P14.7: the power goes ahead of each call, in the midst of each form, behind whatever was refused before it.
func TestPowerGoesAnywhere(t *testing.T) {
	for _, a := range everyRefusal() {
		for call := range 6 {
			for _, inside := range []int{0, 1, 40, 99} {
				for _, b := range []deed{store(newer("a", 2, 4, 4, 4)), store(newer("c", 0, 5)), drop("a")} {
					everyLoss(t, slices.Concat(a, []deed{burn(call, inside), b})...)
				}
			}
		}
	}
}

// P14.7: as the power goes ahead of each call of a Store: the old shard until its Rename, then by the fate one or the other, and the new one alone when it has answered OK; at whatever byte of the form.
func TestOldOrNew(t *testing.T) {
	fresh := newer("a", 2, 3, 3)
	for call := range 6 {
		for inside := range len(mustEncode(fresh)) + 1 {
			met := map[int]int{}
			for _, f := range fates(2) {
				w := beginning(t)
				w.play(t, burn(call, inside), store(fresh), lose(f))
				for _, want := range []api.Head{plainShard().Head, fresh.Head} {
					got := bay.Look(w, want)
					fatalUnless(t, got.Kind == api.SeenShard, "Look = %v behind %v", got, w.behind)
					met[got.Shard.Gen.Count]++
				}
			}
			want := map[int]int{5: 24}
			switch call {
			case 4:
				want = map[int]int{5: 12, 6: 12}
			case 5:
				want = map[int]int{6: 24}
			}
			fatalUnless(t, maps.Equal(met, want), "the power goes ahead of the call %d: %v, not %v", call, met, want)
		}
	}
}

// P14.8: what was stored stays, of many keys, through losses of power and whatever is done to other keys and refused there; what is offline or without power is silent meanwhile, and shows it again.
func TestStoredStays(t *testing.T) {
	r := source(142)
	for range 100 {
		w := newWorld(100000)
		keys := []string{"a", "b", "ab", someText(r, 255)}
		for _, key := range keys {
			w.play(t, store(someShard(r, key)))
		}
		for range 30 {
			w.play(t, someDeed(r, []string{"x", "aa", "\x00"}))
		}
		w.Arm(nil)
		w.play(t, burn(-1, 0), offline(false), power(true))
		for _, key := range keys {
			s := w.handed[key][0].shard
			for range 2 {
				wantSeen(t, "Look", bay.Look(w, s.Head), api.Seen{Kind: api.SeenShard, Shard: s})
				wantSeen(t, "Glance", bay.Glance(w, s.Head), api.Seen{Kind: api.SeenShard, Shard: api.Shard{Head: s.Head}})
				w.play(t, lose(someFate(r)))
			}
			w.Offline(true)
			wantSeen(t, "Look", bay.Look(w, s.Head), api.Seen{Kind: api.SeenSilent, Err: api.ErrOffline})
			w.Power(false)
			wantSeen(t, "Look", bay.Look(w, s.Head), api.Seen{Kind: api.SeenSilent, Err: api.ErrDown})
			wantSeen(t, "Glance", bay.Glance(w, s.Head), api.Seen{Kind: api.SeenSilent, Err: api.ErrDown})
			w.Offline(false)
			w.Power(true)
			wantSeen(t, "Look", bay.Look(w, s.Head), api.Seen{Kind: api.SeenShard, Shard: s})
		}
	}
}

// turned are the bytes that turn the bits of the pattern, whose lowest bit is the one at: layer 6's order is that of the bytes, in each the lowest bit first.
func turned(length, at int, pattern uint32) []byte {
	mask := make([]byte, length)
	for i := range 32 {
		if pattern>>i&1 == 1 && at+i < 8*length {
			mask[(at+i)/8] |= 1 << ((at + i) % 8)
		}
	}
	return mask
}

// checkTurned is P14.9 of one drive, one shard and one choice of bits; the file is put right again behind it.
func checkTurned(t *testing.T, d *drive.Drive, s api.Shard, at int, pattern uint32) {
	t.Helper()
	length, _ := frame.Length(s.Head)
	mask := turned(length, at, pattern)
	if slices.Max(mask) == 0 {
		return
	}
	wantNumber(t, "Flip", d.Flip(nameOf(s.Key), 0, mask), api.OK)
	glance := api.Seen{Kind: api.SeenShard, Shard: api.Shard{Head: s.Head}}
	if slices.Max(mask[:40+len(s.Key)]) > 0 {
		glance = api.Seen{Kind: api.SeenSpoilt}
	}
	if got := bay.Look(d, s.Head); !sameSeen(got, api.Seen{Kind: api.SeenSpoilt}) {
		t.Fatalf("%v with the bits %b from %d on turned: Look = %v", s, pattern, at, got)
	}
	if got := bay.Glance(d, s.Head); !sameSeen(got, glance) {
		t.Fatalf("%v with the bits %b from %d on turned: Glance = %v", s, pattern, at, got)
	}
	wantNumber(t, "Flip", d.Flip(nameOf(s.Key), 0, mask), api.OK)
}

// P14.9: turned bits anywhere, of shards without blocks and with some, of short keys and of the longest.
func TestTurnedBits(t *testing.T) {
	r := source(143)
	shards := []api.Shard{plainShard(), newer("a", 0, 1), filled(r, with(func(h *api.Head) { h.Size = 0 })), filled(r, with(func(h *api.Head) { h.Key = strings.Repeat("k", 255) }))}
	for range 12 {
		shards = append(shards, someShard(r, someText(r, 1+r.Intn(5))))
	}
	for _, s := range shards {
		d := drive.New(5000)
		wantNumber(t, "Store", bay.Store(d, s), api.OK)
		for at := range 8 * len(mustEncode(s)) {
			for _, pattern := range []uint32{1, 3, 0x80000001, 0xffffffff, 0x82f63b78, 1<<31 | r.Uint32()&r.Uint32() | 1, r.Uint32() | 1} {
				checkTurned(t, d, s, at, pattern)
			}
		}
		wantSeen(t, "Look", bay.Look(d, s.Head), api.Seen{Kind: api.SeenShard, Shard: s})
	}
}

// P14.10: whatever bytes stand there: Glance of what Look shows is its head, Look of what Glance shows is whole or spoilt.
func TestLookAndGlance(t *testing.T) {
	r := source(144)
	met := map[string]int{}
	for range 20000 {
		s := someShard(r, pick(r, "a", "b"))
		b := mustEncode(s)
		switch r.Intn(8) {
		case 0:
			b = b[:r.Intn(len(b))]
		case 1:
			b = append(b, someText(r, 1+r.Intn(3))...)
		case 2, 3:
			b[r.Intn(len(b))] ^= 1 << r.Intn(8)
		case 4:
			b = []byte(someText(r, r.Intn(90)))
		}
		w := wound.New(drive.Load(1000, []api.File{{Name: nameOf("a"), Data: b}}))
		w.Offline(r.Intn(20) == 0)
		w.Power(r.Intn(20) > 0)
		want := pick(r, append(nearWants(s.Head), with(func(h *api.Head) { h.Key = pick(r, "a", "c", "") }))...)
		look, glance := bay.Look(w, want), bay.Glance(w, want)
		if look.Kind == api.SeenShard {
			wantSeen(t, "Glance", glance, api.Seen{Kind: api.SeenShard, Shard: api.Shard{Head: look.Shard.Head}})
		}
		if glance.Kind == api.SeenNone || glance.Kind == api.SeenSilent {
			wantSeen(t, "Look", look, glance)
		}
		if glance.Kind == api.SeenShard {
			fatalUnless(t, look.Kind == api.SeenSpoilt || look.Kind == api.SeenShard && look.Shard.Head == glance.Shard.Head, "Glance = %v, Look = %v", glance, look)
		}
		met[fmt.Sprint(kinds[glance.Kind], " ", kinds[look.Kind])]++
	}
	for _, what := range []string{"shard shard", "shard spoilt", "spoilt spoilt", "none none", "silent silent"} {
		fatalUnless(t, met[what] > 100, "%s: %d times, of %v", what, met[what], met)
	}
	fatalUnless(t, len(met) == 5, "%v", met)
}

// A torn form, of whatever length, is never shown: neither whole nor by its head.
func TestTornForms(t *testing.T) {
	for _, s := range []api.Shard{plainShard(), newer("a", 1, 7, 7, 7, 7), newer("\xff\x00", 0)} {
		if s.Size == 0 {
			s.Blocks = nil
		}
		form := mustEncode(s)
		for n := range len(form) + 4 {
			b := slices.Concat(form, []byte{0, 0, 0})[:n]
			d := drive.Load(1000, []api.File{{Name: nameOf(s.Key), Data: b}})
			look, glance := api.Seen{Kind: api.SeenSpoilt}, api.Seen{Kind: api.SeenSpoilt}
			if bytes.Equal(b, form) {
				look, glance = api.Seen{Kind: api.SeenShard, Shard: s}, api.Seen{Kind: api.SeenShard, Shard: api.Shard{Head: s.Head}}
			}
			wantSeen(t, fmt.Sprintf("Look of %d bytes", n), bay.Look(d, s.Head), look)
			wantSeen(t, fmt.Sprintf("Glance of %d bytes", n), bay.Glance(d, s.Head), glance)
		}
	}
}

package scrub_test

import (
	"encoding/hex"
	"math/big"
	"math/rand"
	"regexp"
	"slices"
	"strings"
	"testing"

	"cairn/api"
	"cairn/frame"
	"cairn/mend"
)

func fatalUnless(t *testing.T, is bool, says string, args ...any) {
	t.Helper()
	if !is {
		t.Fatalf(says, args...)
	}
}

func wantNumber(t *testing.T, says string, got, want api.Errno) {
	t.Helper()
	fatalUnless(t, got == want, "%s = %d, not %d", says, got, want)
}

func source(seed int64) *rand.Rand { return rand.New(rand.NewSource(seed)) }

// pick is one of the list.
func pick[E any](r *rand.Rand, l ...E) E { return l[r.Intn(len(l))] }

// every hands over all lists of n numbers below m.
func every(n, m int, each func([]int)) {
	l := make([]int, n)
	for {
		each(l)
		i := 0
		for i < n && l[i] == m-1 {
			l[i] = 0
			i++
		}
		if i == n {
			return
		}
		l[i]++
	}
}

// What may be, in the words of the page, reckoned without bounds.

func number(n int) *big.Int { return big.NewInt(int64(n)) }

func from(least, n, greatest int) bool {
	return number(least).Cmp(number(n)) <= 0 && number(n).Cmp(number(greatest)) <= 0
}

func isShape(s api.Shape) bool {
	n := new(big.Int).Add(number(s.K), number(s.M))
	return from(1, s.M, s.K) && n.Cmp(number(255)) <= 0 && from(1, s.Block, 65536)
}

func isSet(set *api.Set) bool {
	return isShape(set.Shape) && len(set.Disks) == set.Shape.K+set.Shape.M && from(1, set.Last.Epoch, 4294967295) && from(0, set.Last.Count, 4294967295)
}

var objectName = regexp.MustCompile(`^o([0-9a-f]{2}){1,255}$`)

// keyOf is the key whose file has that name, if there is one.
func keyOf(name string) (string, bool) {
	if !objectName.MatchString(name) || strings.HasSuffix(name, "\n") {
		return "", false
	}
	key, err := hex.DecodeString(name[1:])
	return string(key), err == nil
}

// writing is a generation and a Size.
type writing struct {
	gen  api.Gen
	size int
}

// shown is the writing that a place shows, if it shows one.
func shown(s api.Seen) (writing, bool) {
	return writing{s.Shard.Gen, s.Shard.Size}, s.Kind == 2
}

func (w writing) newer(x writing) bool {
	if w.gen.Epoch != x.gen.Epoch {
		return w.gen.Epoch > x.gen.Epoch
	}
	if w.gen.Count != x.gen.Count {
		return w.gen.Count > x.gen.Count
	}
	return w.size > x.size
}

// verdictByHand is the page's Judge.
func verdictByHand(shape api.Shape, seen []api.Seen) api.Verdict {
	at, hidden := map[writing][]int{}, 0
	for i, s := range seen {
		if w, is := shown(s); is {
			at[w] = append(at[w], i)
		} else if s.Kind != 1 {
			hidden++
		}
	}
	best, some := writing{}, false
	for w, places := range at {
		if len(places) >= shape.K && (!some || w.newer(best)) {
			best, some = w, true
		}
	}
	switch {
	case some:
		return api.Verdict{Kind: 1, Gen: best.gen, Size: best.size, Places: at[best]}
	case hidden <= shape.M:
		return api.Verdict{Kind: 2}
	}
	return api.Verdict{Kind: 3}
}

// findsByHand is the chapter's Judge, of a set that may be.
func findsByHand(shape api.Shape, key string, v api.Verdict, seen []api.Seen) (finds []api.Find) {
	tell := func(place, kind int, gen api.Gen) {
		finds = append(finds, api.Find{Key: key, Place: place, Kind: kind, Gen: gen})
	}
	switch v.Kind {
	case 1:
		wrong, unknown := wrongByHand(shape, v, seen)
		if unknown {
			tell(-1, 6, v.Gen)
		}
		for i, s := range seen {
			w, shows := shown(s)
			switch {
			case s.Kind == 1:
				tell(i, 1, v.Gen)
			case s.Kind == 3:
				tell(i, 2, v.Gen)
			case shows && w != writing{v.Gen, v.Size}:
				tell(i, 4, w.gen)
			case shows && wrong[i] > 0:
				tell(i, 3, v.Gen)
			case shows:
			default:
				tell(i, 5, v.Gen)
			}
		}
	case 2:
		for i, s := range seen {
			w, shows := shown(s)
			switch {
			case shows:
				tell(i, 4, w.gen)
			case s.Kind == 3:
				tell(i, 2, api.Gen{})
			case s.Kind != 1:
				tell(i, 5, api.Gen{})
			}
		}
	default:
		tell(-1, 6, api.Gen{})
		for i, s := range seen {
			_, shows := shown(s)
			switch {
			case s.Kind == 3:
				tell(i, 2, api.Gen{})
			case s.Kind != 1 && !shows:
				tell(i, 5, api.Gen{})
			}
		}
	}
	return finds
}

// wrongByHand tells of how many of the blocks that are shown Mend tells each place, and whether it answers an error of one.
func wrongByHand(shape api.Shape, v api.Verdict, seen []api.Seen) (map[int]int, bool) {
	wrong, unknown := map[int]int{}, false
	for j := 0; ; j++ {
		rows, some := make([][]byte, len(seen)), false
		for i, s := range seen {
			if w, is := shown(s); is && (w == writing{v.Gen, v.Size}) && len(s.Shard.Blocks) > j {
				rows[i], some = s.Shard.Blocks[j], true
			}
		}
		if !some {
			return wrong, unknown
		}
		_, places, err := mend.Mend(shape.K, rows)
		for _, i := range places {
			wrong[i]++
		}
		unknown = unknown || err != 0
	}
}

// hand is a walk by hand, in the words of the chapter: the jobs of a round one behind the other, the last drive first.
type hand struct {
	set   *api.Set
	place string
	seen  int
	end   bool
}

func stopped(done <-chan struct{}) bool {
	if len(done) > 0 {
		return true
	}
	select {
	case <-done:
		return true
	default:
		return false
	}
}

// round is a round of jobs that tell what their drive answered.
func (h *hand) round(done <-chan struct{}, job func(i int, d api.Disk) api.Errno) api.Errno {
	if stopped(done) {
		return 160
	}
	down, off := false, false
	for i, d := range slices.Backward(h.set.Disks) {
		if d != nil && job(i, d) == 122 {
			down = true
		}
	}
	for _, d := range h.set.Disks {
		if d != nil && d.Struck() {
			off = true
		}
	}
	for _, d := range h.set.Disks {
		if d != nil {
			d.Rest(off)
		}
	}
	if down {
		return 122
	}
	return 0
}

// look is what all places show of a key.
func (h *hand) look(done <-chan struct{}, key string) ([]api.Seen, api.Errno) {
	seen := slices.Repeat([]api.Seen{{Kind: 4}}, len(h.set.Disks))
	return seen, h.round(done, func(i int, d api.Disk) api.Errno {
		b, err := d.Read(nameOf(key))
		s, no := frame.Parse(b)
		switch {
		case err == 110:
			seen[i].Kind = 1
		case err != 0:
		case no == 0 && s.Store == h.set.Store && s.Shape == h.set.Shape && s.Key == key && s.Index == i:
			seen[i] = api.Seen{Kind: 2, Shard: s}
		default:
			seen[i].Kind = 3
		}
		return err
	})
}

// step is the chapter's Step.
func (h *hand) step(done <-chan struct{}, budget int) (finds []api.Find, end bool, err api.Errno) {
	switch {
	case h == nil || h.set == nil:
		return nil, false, 1
	case !isSet(h.set) || budget < 1:
		return nil, false, 2
	}
	place, count := h.place, h.seen
	if h.end {
		place, count = "", 0
	}
	told, well := map[string]int{}, 0
	err = h.round(done, func(i int, d api.Disk) api.Errno {
		names, err := d.List()
		if err != 0 {
			return err
		}
		well++
		for _, name := range names {
			if key, is := keyOf(name); is {
				told[key]++
			}
		}
		return 0
	})
	if err == 0 && well < h.set.Shape.K {
		err = 170
	}
	if err != 0 {
		return nil, false, err
	}
	var keys []string
	for key := range told {
		if key > place {
			keys = append(keys, key)
		}
	}
	slices.Sort(keys)
	for len(keys) > 0 && budget > 0 {
		seen, err := h.look(done, keys[0])
		if err != 0 {
			return nil, false, err
		}
		finds = append(finds, findsByHand(h.set.Shape, keys[0], verdictByHand(h.set.Shape, seen), seen)...)
		place, keys = keys[0], keys[1:]
		count++
		budget--
	}
	h.place, h.seen, h.end = place, count, len(keys) == 0
	return finds, h.end, 0
}

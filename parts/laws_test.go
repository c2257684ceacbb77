package parts_test

import (
	"fmt"
	"math"
	"slices"
	"strings"
	"testing"

	"cairn/api"
	"cairn/parts"
	"cairn/store"
)

// bench is uploads over wounds, of which the upload 1 of "film" has the parts 1, 2 and 3, and 2 of "film" part 1; 3 is of "song".
type bench struct {
	w []*patient
	s *store.Store
	u *parts.Uploads
}

func newBench(t *testing.T, shape api.Shape) *bench {
	t.Helper()
	b := &bench{w: patients(shape.K+shape.M, 1<<20)}
	s, err := store.Create(disksOf(b.w), shape, theStore())
	fatalUnless(t, err == nil, "Create: %v", err)
	b.over(s)
	for n, key := range []string{"film", "film", "song"} {
		got, number := b.u.Begin(key)
		fatalUnless(t, got == n+1 && number == api.OK, "Begin = %d, %d", got, number)
	}
	for n, data := range []string{"start", "not this one", "-end"} {
		_, number := b.u.Put("film", 1, n+1, []byte(data))
		fatalUnless(t, number == api.OK, "Put = %d", number)
	}
	_, number := b.u.Put("film", 2, 1, []byte("other"))
	fatalUnless(t, number == api.OK, "Put = %d", number)
	return b
}

func (b *bench) over(s *store.Store) { b.s, b.u = s, parts.New(s) }

// lose is a loss of power in which of each drive this is kept, and the opening behind it.
func (b *bench) lose(t *testing.T, keep api.Fate) {
	t.Helper()
	for _, w := range b.w {
		w.Power(false)
		w.Crash(keep)
		w.Fuse(-1, 0, 0)
		w.Power(true)
	}
	s, err := store.Open(disksOf(b.w))
	fatalUnless(t, err == nil, "Open: %v", err)
	b.over(s)
}

func (b *bench) reads(t *testing.T, key string) string {
	t.Helper()
	data, number := b.u.Read(key, 0, math.MaxInt)
	size, no := b.u.Size(key)
	fatalUnless(t, number == no && size == len(data) && (number == api.OK || number == api.ErrNotFound), "Read %q = %q, %d; Size = %d, %d", key, data, number, size, no)
	if number != api.OK {
		return absent
	}
	return string(data)
}

// harms let the power go in a round, at each call of each drive.
func harms(shape api.Shape) []func(b *bench, round int) {
	var l []func(b *bench, round int)
	for i := range shape.K + shape.M {
		for call := range 6 {
			l = append(l, func(b *bench, round int) { b.w[i].Fuse(round, call, 7) })
		}
	}
	return l
}

func keeps() []api.Fate {
	return []api.Fate{{}, {Dirs: []bool{true, true, true, true}}, {Dirs: []bool{false, true, true}}, {Dirs: []bool{true, false, true}}, {Dirs: []bool{true}, Cuts: []int{3}}}
}

// P26.12: the power goes at each call of each drive in each round of a Finish: the object is there whole or not at all, and Finish goes on to its end; what Finish answered OK is there.
func TestFinishStruckAnywhere(t *testing.T) {
	t.Parallel()
	met := map[string]int{}
	list := []api.Part{partOf(1, "start"), partOf(3, "-end")}
	for _, shape := range []api.Shape{small(), {K: 1, M: 1, Block: 3}, {K: 2, M: 2, Block: 8}} {
		for h, harm := range harms(shape) {
			for round := range 17 {
				for i := range 2 {
					keep := keeps()[(h+round+i)%len(keeps())]
					b := newBench(t, shape)
					harm(b, round)
					first := b.u.Finish("film", 1, list)
					b.lose(t, keep)
					was := b.reads(t, "film")
					fatalUnless(t, was == "start-end" || was == absent && first != api.OK, "round %d, %v: Finish = %d, and %q is there", round, keep, first, was)
					again := b.u.Finish("film", 1, list)
					fatalUnless(t, again == api.OK || again == api.ErrUpload && first == api.OK, "round %d, %v: Finish = %d, and then %d", round, keep, first, again)
					fatalUnless(t, b.reads(t, "film") == "start-end", "round %d: %q", round, b.reads(t, "film"))
					met[fmt.Sprint(int(first), " ", int(again), " ", was)]++
					number := b.u.Abort("film", 1)
					fatalUnless(t, number == api.ErrUpload || number == api.ErrExists, "Abort = %d", number)
					fatalUnless(t, b.u.Finish("film", 2, nil) == api.ErrExists, "another upload was finished")
					_, number = b.u.Sweep()
					keys := own(t, b.s)
					want := []string{manifestKey("film"), numberKey(3), partKey(1, 1), partKey(1, 3), partKey(2, 1), recordKey(2), recordKey(3)}
					fatalUnless(t, number == api.OK && slices.Equal(keys, want), "Sweep = %d; the own keys are %q", number, keys)
				}
			}
		}
	}
	for _, what := range []string{"122 0 " + absent, "122 0 start-end", "0 0 start-end", "0 260 start-end"} {
		fatalUnless(t, met[what] > 5, "%s: %v", what, met)
	}
	fatalUnless(t, len(met) == 4, "%v", met)
}

// refuse lets drives refuse all calls in the rounds from one on and below another; nobody else is told of rounds.
type refuse struct {
	*patient
	rounds, from, end int
}

func (r *refuse) Rest(off bool) {
	r.patient.Rest(off)
	r.rounds++
	r.Offline(r.from <= r.rounds && r.rounds < r.end)
}

// P26.12: some drives refuse all calls in some rounds of a Finish; when all answer, it goes on to its end.
func TestFinishRefusedAnywhere(t *testing.T) {
	t.Parallel()
	met := map[api.Errno]int{}
	list := []api.Part{partOf(1, "start"), partOf(3, "-end")}
	for _, shape := range []api.Shape{small(), {K: 2, M: 2, Block: 8}} {
		n := shape.K + shape.M
		for mask := 1; mask < 1<<n; mask++ {
			for from := range 14 {
				for _, long := range []int{1, 2, 99} {
					b := newBench(t, shape)
					disks := disksOf(b.w)
					var l []*refuse
					for i, w := range b.w {
						if mask>>i&1 == 1 {
							l = append(l, &refuse{patient: w, rounds: -99})
							disks[i] = l[len(l)-1]
						}
					}
					s, err := store.Open(disks)
					fatalUnless(t, err == nil, "Open: %v", err)
					b.over(s)
					for _, r := range l {
						r.rounds, r.from, r.end = 0, from, from+long
						r.Offline(from == 0)
					}
					first := b.u.Finish("film", 1, list)
					met[first]++
					for _, r := range l {
						r.from, r.end = 0, 0
						r.Offline(false)
					}
					was := b.reads(t, "film")
					fatalUnless(t, was == "start-end" || was == absent && first != api.OK, "drives %b, round %d: Finish = %d, and %q is there", mask, from, first, was)
					again := b.u.Finish("film", 1, list)
					fatalUnless(t, again == api.OK || again == api.ErrUpload && first == api.OK, "drives %b, round %d: Finish = %d, and then %d", mask, from, first, again)
					fatalUnless(t, b.reads(t, "film") == "start-end", "%q", b.reads(t, "film"))
				}
			}
		}
	}
	fatalUnless(t, met[api.OK] > 5 && met[api.ErrQuorum] > 5, "%v", met)
}

// P26.12: the power goes at each call of each drive in each round of an Abort, behind each round of a Finish: where Abort is answered OK in the end, no object comes of the upload; where it isn't, the object is there.
func TestAbortStruckAnywhere(t *testing.T) {
	t.Parallel()
	met := map[string]int{}
	list := []api.Part{partOf(1, "start"), partOf(3, "-end")}
	for round := range 17 {
		for i := range 3 {
			for second := range 16 {
				for j := range 2 {
					keep := keeps()[(round+i+second+j)%len(keeps())]
					b := newBench(t, small())
					b.w[i].Fuse(round, 2, 0)
					b.u.Finish("film", 1, list)
					b.lose(t, keep)
					b.w[(i+1)%3].Fuse(second, second%4, 0)
					first := b.u.Abort("film", 1)
					b.lose(t, keep)
					was := b.reads(t, "film")
					fatalUnless(t, was == absent || was == "start-end" && first != api.OK, "Abort = %d, and %q is there", first, was)
					again := b.u.Abort("film", 1)
					met[fmt.Sprint(int(first), " ", int(again), " ", was)]++
					last := b.u.Finish("film", 1, list)
					switch {
					case first == api.OK, again == api.OK, was == absent:
						fatalUnless(t, last == api.ErrUpload && b.reads(t, "film") == absent, "Abort = %d, and then %d; Finish = %d, and %q is there", first, again, last, b.reads(t, "film"))
					default:
						fatalUnless(t, (last == api.OK || last == api.ErrUpload) && b.reads(t, "film") == "start-end", "Abort = %d, and then %d; Finish = %d, and %q is there", first, again, last, b.reads(t, "film"))
					}
					_, number := b.u.Abort("film", 2), b.u.Abort("song", 3)
					_, no := b.u.Sweep()
					fatalUnless(t, number == api.OK && no == api.OK, "Abort = %d, Sweep = %d", number, no)
					keys := own(t, b.s)
					want := []string{numberKey(3)}
					if b.reads(t, "film") != absent {
						want = []string{manifestKey("film"), numberKey(3), partKey(1, 1), partKey(1, 3)}
					}
					fatalUnless(t, slices.Equal(keys, want), "the own keys are %q", keys)
				}
			}
		}
	}
	for _, what := range []string{"122 0 " + absent, "0 260 " + absent, "190 190 start-end", "122 190 start-end", "260 260 start-end"} {
		fatalUnless(t, met[what] > 5, "%s: %v", what, met)
	}
}

// P26.2: no number that was acknowledged comes again, wherever the power goes in a Begin, or in a Sweep.
func TestNumbersNeverComeAgain(t *testing.T) {
	t.Parallel()
	for round := range 14 {
		for i := range 3 {
			for call := range 6 {
				for _, keep := range keeps() {
					b := newBench(t, small())
					given := map[int]bool{1: true, 2: true, 3: true}
					for _, do := range []func() int{
						func() int { n, _ := b.u.Begin("film"); return n },
						func() int { b.u.Abort("film", 2); b.u.Abort("song", 3); b.u.Sweep(); return 0 },
						func() int { n, _ := b.u.Begin("song"); return n },
					} {
						b.w[i].Fuse(round, call, 0)
						n := do()
						fatalUnless(t, !given[n], "the number %d was given out before", n)
						if n > 0 {
							given[n] = true
						}
						b.lose(t, keep)
					}
					n, number := b.u.Begin("film")
					fatalUnless(t, number == api.OK && !given[n], "Begin = %d, %d; %v were given out before", n, number, given)
				}
			}
		}
	}
}

// P26.13: whatever is done of others, of the same key and of other ones, and of plain objects, of an upload all is told as before.
func TestOthersBeside(t *testing.T) {
	b := newBench(t, small())
	u := b.u
	ok := func(says string, number api.Errno) {
		t.Helper()
		fatalUnless(t, number == api.OK, "%s = %d", says, number)
	}
	want := []api.Part{partOf(1, "start"), partOf(2, "not this one"), partOf(3, "-end")}
	unturned := func(says string) {
		t.Helper()
		list, number := u.List("film", 1)
		fatalUnless(t, number == api.OK && slices.Equal(list, want), "behind %s: List = %v, %d", says, list, number)
		open, number := u.Open("film")
		fatalUnless(t, number == api.OK && slices.Contains(open, 1), "behind %s: Open = %v, %d", says, open, number)
	}
	_, number := u.Begin("film")
	ok("Begin", number)
	unturned("Begin")
	ok("Abort", u.Abort("film", 4))
	unturned("Abort")
	_, number = u.Put("song", 3, 1, []byte("la"))
	ok("Put", number)
	ok("Finish", u.Finish("song", 3, []api.Part{partOf(1, "la")}))
	unturned("Finish of another key")
	_, number = u.Sweep()
	ok("Sweep", number)
	unturned("Sweep")
	ok("Delete", u.Delete("song"))
	unturned("Delete of another key")
	fatalUnless(t, b.s.Put("plain", []byte("x")) == nil && u.Delete("plain") == api.OK, "a plain object")
	unturned("a plain object")
	ok("Finish", u.Finish("film", 2, []api.Part{partOf(1, "other")}))
	unturned("Finish of the same key")
	fatalUnless(t, u.Finish("film", 1, want) == api.ErrExists, "Finish of a key that has an object")
	unturned("a Finish that was refused")
	_, number = u.Sweep()
	ok("Sweep", number)
	unturned("Sweep")
	fatalUnless(t, b.reads(t, "film") == "other", "%q", b.reads(t, "film"))
	ok("Delete", u.Delete("film"))
	unturned("Delete of the same key")
	ok("Finish", u.Finish("film", 1, want))
	fatalUnless(t, b.reads(t, "film") == "startnot this one-end", "%q", b.reads(t, "film"))
}

// P26.12: M drives or fewer that fail behind a Finish hide nothing of an object.
func TestReadOfFewDrives(t *testing.T) {
	for _, shape := range []api.Shape{small(), {K: 1, M: 1, Block: 1}, {K: 3, M: 2, Block: 4}} {
		n := shape.K + shape.M
		for mask := range 1 << n {
			b := newBench(t, shape)
			number := b.u.Finish("film", 1, []api.Part{partOf(1, "start"), partOf(3, "-end")})
			fatalUnless(t, number == api.OK, "Finish = %d", number)
			gone := 0
			for i, w := range b.w {
				if mask>>i&1 == 1 {
					gone++
					if i%2 == 0 {
						w.Wipe()
					} else {
						w.Offline(true)
					}
				}
			}
			data, number := b.u.Read("film", 2, 5)
			if gone <= shape.M {
				fatalUnless(t, string(data) == "art-e" && number == api.OK, "%b: Read = %q, %d", mask, data, number)
				continue
			}
			fatalUnless(t, number == api.ErrQuorum || number == api.ErrNotFound, "%b: Read = %q, %d", mask, data, number)
		}
	}
}

// P26.5, P26.12: a manifest that does not fit is refused, and nothing of it stands.
func TestManifestThatDoesNotFit(t *testing.T) {
	b := newBench(t, small())
	most := 4096 * 2 * 4
	many := most/10 + 1
	n, number := b.u.Begin("many")
	fatalUnless(t, number == api.OK, "Begin = %d", number)
	var list []api.Part
	for i := range many {
		p, number := b.u.Put("many", n, i+1, nil)
		fatalUnless(t, number == api.OK && p == partOf(i+1, ""), "Put = %v, %d", p, number)
		list = append(list, p)
	}
	fatalUnless(t, b.u.Finish("many", n, list) == api.ErrLarge, "Finish of a list that does not fit")
	fatalUnless(t, b.reads(t, "many") == absent, "%q", b.reads(t, "many"))
	short := (most - len(manifestOf(n, "many", list[:200]...)) + 200*10) / 10
	fatalUnless(t, b.u.Finish("many", n, list[:short+1]) == api.ErrLarge, "Finish of a list that just does not fit")
	fatalUnless(t, b.u.Finish("many", n, list[:short]) == api.OK, "Finish of a list that just fits")
	fatalUnless(t, b.reads(t, "many") == "", "%q", b.reads(t, "many"))
}

// As many parts as there may be.
func TestAllParts(t *testing.T) {
	t.Parallel()
	b := newBench(t, api.Shape{K: 1, M: 1, Block: 65536})
	n, number := b.u.Begin("all")
	fatalUnless(t, number == api.OK, "Begin = %d", number)
	var list []api.Part
	var all strings.Builder
	for i := range api.MaxParts {
		data := strings.Repeat("x", i%2) + fmt.Sprint(i%7)
		p, number := b.u.Put("all", n, i+1, []byte(data))
		fatalUnless(t, number == api.OK && p == partOf(i+1, data), "Put = %v, %d", p, number)
		list = append(list, p)
		all.WriteString(data)
	}
	told, number := b.u.List("all", n)
	fatalUnless(t, number == api.OK && slices.Equal(told, list), "List = %d", number)
	fatalUnless(t, b.u.Finish("all", n, list) == api.OK, "Finish of all parts")
	fatalUnless(t, b.reads(t, "all") == all.String(), "it is not whole")
}

// rubbish is something that stands under an own key, of whatever form.
func (b *bench) rubbish(t *testing.T, i int) {
	t.Helper()
	r := source(int64(i))
	texts := []string{"", "x", "film", manifestOf(1, "film", film()...), manifestOf(0, ""), manifestOf(7, "film", api.Part{Number: 65535, Size: 1<<32 - 1}), "\xff\xff\xff\xff\xff\xff\xff\xff\xff\xff\xff\xff\xff\xff", "\x01\x00\x00\x00\x00\xff\xff\xff\xff\xff\xff\xff\xff\xff\x01", manifestOf(1, "film", film()...) + "x", manifestOf(1, strings.Repeat("k", 300)), manifestOf(2, "film", film()[1], film()[0], film()[0])}
	for range 1 + r.Intn(8) {
		n := high32(pick(r, 0, 1, 2, 3, 9, 1<<32-1))
		key := pick(r, "\x00", "\x00\x00", "\x00n", "\x00u", "\x00p", "\x00f", "\x00m", "\x00x", "\x00n"+n, "\x00u"+n, "\x00f"+n, "\x00p"+n, "\x00p"+n+"\x00\x00", "\x00p"+n+"\xff\xff", "\x00p"+n+"\x00\x07", "\x00mfilm", "\x00msong", "\x00m\x00", "\x00n"+n+"x", "\x00f"+n[1:])
		data := pick(r, texts...)
		if r.Intn(3) == 0 {
			data = data[:r.Intn(len(data)+1)]
		}
		b.s.Delete(key)
		err := b.s.Put(key, []byte(data))
		fatalUnless(t, err == nil, "Put: %v", err)
	}
}

// P26.15: whatever stands under own keys, each call ends with one of the chapter's numbers, and none panics.
func TestRubbish(t *testing.T) {
	t.Parallel()
	met := map[api.Errno]int{}
	numbers := []api.Errno{api.OK, api.ErrArg, api.ErrUpload, api.ErrPart, api.ErrExists, api.ErrNotFound, api.ErrRange, api.ErrWorn}
	for i := range 500 {
		b := newBench(t, small())
		b.rubbish(t, i)
		for _, op := range everyOp {
			for _, c := range []call{
				{op: op, key: "film", upload: 1, number: 7, list: []api.Part{partOf(1, "start")}, n: 1 << 40},
				{op: op, key: "film", upload: 2, number: 1, off: 3, n: 9},
				{op: op, key: "song", upload: 1<<32 - 1, number: 1, off: 1 << 40},
			} {
				a := ask(b.u, c)
				met[a.number]++
				fatalUnless(t, slices.Contains(numbers, a.number) && (a.number == api.OK || a.says == nothing), "%d: %+v = %v", i, c, a)
			}
		}
	}
	for _, number := range numbers {
		fatalUnless(t, met[number] > 5 || number == api.ErrArg, "%d: %v", number, met)
	}
}

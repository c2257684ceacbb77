package scrub_test

import (
	"fmt"
	"math"
	"slices"
	"strings"
	"testing"
	"time"

	"cairn/api"
	"cairn/bay"
	"cairn/drive"
	"cairn/fan"
	"cairn/scrub"
	"cairn/wound"
)

// numbers are answers of a drive; the first is OK.
var numbers = []api.Errno{0, 110, 120, 121, 122, 111, 112, 91, 90, 70, 81, 1, 2, 3, 170, 181, 200, 201, 160, 7, -1, -7, math.MaxInt, math.MinInt}

// find is a find of a generation of epoch 1; count 0: the zero one.
func find(key string, place, kind, count int) api.Find {
	if count == 0 {
		return api.Find{Key: key, Place: place, Kind: kind}
	}
	return api.Find{Key: key, Place: place, Kind: kind, Gen: gen(count)}
}

// The chapter's examples, the first three rows.
func TestExampleOfAWalk(t *testing.T) {
	set, w := laid(t, small(), "a", "hello", "b", "bye")
	s := scrub.New(set)
	wantAt(t, s, "", 0)
	wantStep(t, s, 1, false)
	wantAt(t, s, "a", 1)
	wantStep(t, s, 1, true)
	wantAt(t, s, "b", 2)
	wantStep(t, s, 5, true)
	wantAt(t, s, "b", 2)
	w[1].Wipe()
	wantStep(t, s, 9, true, find("a", 1, api.FoundMissing, 1), find("b", 1, api.FoundMissing, 2))
}

// The chapter's examples, the fourth row.
func TestExampleOfUnknown(t *testing.T) {
	set, w := laid(t, small(), "a", "hello", "b", "bye")
	w[0].Flip("o61", 0, []byte{1})
	w[2].Offline(true)
	wantStep(t, scrub.New(set), 9, true,
		find("a", -1, api.FoundUnknown, 0), find("a", 0, api.FoundSpoilt, 0), find("a", 2, api.FoundSilent, 0),
		find("b", 2, api.FoundSilent, 2))
}

// restored puts a changed shard in the place of one, its sum made right.
func restored(t *testing.T, set *api.Set, place int, key, data string, count int, change func(s *api.Shard)) {
	t.Helper()
	s := shardsOf(set.Shape, key, data, gen(count))[place]
	change(&s)
	wantNumber(t, "Store", bay.Store(set.Disks[place], s), api.OK)
}

// The chapter's examples, the fifth and sixth row.
func TestExamplesOfWrong(t *testing.T) {
	set, _ := laid(t, api.Shape{K: 1, M: 1, Block: 4}, "a", "\x05")
	restored(t, set, 1, "a", "\x05", 1, func(s *api.Shard) { s.Blocks[0][0] = 9 })
	wantStep(t, scrub.New(set), 9, true, find("a", -1, api.FoundUnknown, 1))
	for place := range 4 {
		set, _ := laid(t, api.Shape{K: 2, M: 2, Block: 4}, "a", "hello")
		restored(t, set, place, "a", "hello", 1, func(s *api.Shard) { s.Blocks[0][1] ^= 9 })
		wantStep(t, scrub.New(set), 9, true, find("a", place, api.FoundWrong, 1))
	}
}

// The chapter's examples, the last row.
func TestExamplesOfErrors(t *testing.T) {
	set, w := laid(t, small(), "a", "hello", "b", "bye")
	s := scrub.New(set)
	wantStep(t, s, 1, false)
	refused := func(s *scrub.Scrub, done <-chan struct{}, budget int, want api.Errno) {
		t.Helper()
		finds, end, err := s.Step(done, budget)
		fatalUnless(t, len(finds) == 0 && !end && err == want, "Step %d = %v, %v, %d, not %d", budget, finds, end, err, want)
	}
	refused(s, nil, 0, api.ErrArg)
	refused(nil, nil, 1, api.ErrNil)
	refused(s, fan.Done(true), 1, api.ErrStopped)
	w[1].Power(false)
	refused(s, nil, 1, api.ErrDown)
	wantAt(t, s, "a", 1)
	w[1].Power(true)
	wantStep(t, s, 1, true)
	wantAt(t, s, "b", 2)
}

// P29.2: a walk of the set itself: what becomes of the set is seen by the next step.
func TestNew(t *testing.T) {
	fatalUnless(t, scrub.New(nil) == nil, "there is a walk of no set")
	set, _ := laid(t, small(), "a", "hello")
	s := scrub.New(set)
	wantAt(t, s, "", 0)
	wantStep(t, s, 1, true)
	was := set.Disks[1]
	set.Disks[1] = nil
	wantStep(t, s, 1, true, find("a", 1, api.FoundSilent, 1))
	set.Disks[1] = drive.New(100)
	wantStep(t, s, 1, true, find("a", 1, api.FoundMissing, 1))
	set.Disks = []api.Disk{set.Disks[0], was, nil}
	wantStep(t, s, 1, true, find("a", 2, api.FoundSilent, 1))
	set.Store[0]++
	wantStep(t, s, 1, true, find("a", -1, api.FoundUnknown, 0), find("a", 0, api.FoundSpoilt, 0), find("a", 1, api.FoundSpoilt, 0), find("a", 2, api.FoundSilent, 0))
	for i, fault := range faults() {
		mended := *set
		fault(set)
		l, end, err := s.Step(nil, 1)
		fatalUnless(t, len(l) == 0 && !end && err == api.ErrArg, "%d: Step = %v, %v, %d", i, l, end, err)
		wantAt(t, s, "a", 1)
		*set = mended
	}
	for i, fault := range faults() { // such a set has a walk too, which can't go on
		other, w := laid(t, small(), "a", "hello")
		before := w[0].Calls()
		fault(other)
		s := scrub.New(other)
		fatalUnless(t, s != nil, "%d: no walk", i)
		_, _, err := s.Step(nil, 1)
		wantNumber(t, "Step", err, api.ErrArg)
		wantAt(t, s, "", 0)
		for _, x := range w {
			fatalUnless(t, x.Calls() == before, "a drive was called")
		}
	}
}

// Walks of one set are each their own, and so are walks of unlike sets.
func TestWalksOfOneSet(t *testing.T) {
	set, _ := laid(t, small(), "a", "hello", "b", "bye", "c", "")
	one, two := scrub.New(set), scrub.New(set)
	fatalUnless(t, one != two, "there is one walk")
	wantStep(t, one, 1, false)
	wantStep(t, two, 2, false)
	wantAt(t, one, "a", 1)
	wantAt(t, two, "b", 2)
	wantStep(t, two, 2, true)
	wantStep(t, one, 1, false)
	wantAt(t, one, "b", 2)
	wantAt(t, two, "c", 3)
}

// P29.3, P29.4: a walk that is not there, or was made otherwise than by New.
func TestNoWalk(t *testing.T) {
	var none *scrub.Scrub
	for _, s := range []*scrub.Scrub{none, {}, new(scrub.Scrub)} {
		for _, budget := range []int{1, 0, -1, math.MaxInt, math.MinInt} {
			for _, done := range []<-chan struct{}{nil, fan.Done(true)} {
				l, end, err := s.Step(done, budget)
				fatalUnless(t, l == nil && !end && err == api.ErrNil, "Step = %v, %v, %d", l, end, err)
				wantAt(t, s, "", 0)
			}
		}
	}
}

// P29.3: which error comes ahead of which: the set, the budget, the stop, the power, too few that tell.
func TestTheOrderOfErrors(t *testing.T) {
	want := []api.Errno{api.ErrArg, api.ErrArg, api.ErrStopped, api.ErrDown, api.ErrQuorum}
	for subset := range 1 << len(want) {
		has := func(i int) bool { return subset>>i&1 == 1 }
		p := paired(small(), func() []*spy { return shelves(small(), "a", "hello", "b", "bye") })
		p.number(t, nil, 1, api.OK)
		budget, done := 1, fan.Done(has(2))
		if has(0) {
			p.each(func(set *api.Set, _ []*spy) { set.Last.Epoch = 0 })
		}
		if has(1) {
			budget = 0
		}
		if has(3) {
			p.each(func(_ *api.Set, l []*spy) { l[1].refuse(api.ErrDown, "") })
		}
		if has(4) {
			p.each(func(_ *api.Set, l []*spy) { l[0].refuse(api.ErrIO, "List"); l[2].refuse(api.ErrIO, "List") })
		}
		expect := api.OK
		for i := range want {
			if has(i) {
				expect = want[i]
				break
			}
		}
		p.number(t, done, budget, expect)
	}
}

// P29.3: budgets below 1 call no drive; all others are as many keys, or all.
func TestBudgets(t *testing.T) {
	objects := []string{"a", "1", "b", "2", "c", "3", "d", "4", "e", "5"}
	for _, budget := range []int{0, -1, -2, math.MinInt} {
		p := paired(small(), func() []*spy { return shelves(small(), objects...) })
		p.number(t, nil, budget, api.ErrArg)
		p.number(t, fan.Done(true), budget, api.ErrArg)
		for _, d := range p.mine {
			fatalUnless(t, d.rounds == 0, "a drive was called")
		}
	}
	for _, budget := range []int{1, 2, 3, 4, 5, 6, 7, 1 << 31, 1 << 32, 1<<32 + 1, math.MaxInt - 1, math.MaxInt} {
		p := paired(small(), func() []*spy { return shelves(small(), objects...) })
		for steps := 1; ; steps++ {
			_, end, err := p.step(t, nil, budget)
			wantNumber(t, "Step", err, api.OK)
			seen := min(5, steps*min(budget, 5))
			wantAt(t, p.walk, objects[2*seen-2], seen)
			if end {
				fatalUnless(t, steps == (5+min(budget, 5)-1)/min(budget, 5), "the end came in step %d of %d", steps, budget)
				break
			}
		}
	}
}

// P29.3, P29.7: just what each drive is asked: its names once a step, and then one key a round.
func TestWhatIsAsked(t *testing.T) {
	l := shelves(small(), "a", "1", "b", "2", "c", "3")
	l[1].files, l[2].files = map[string][]byte{nameOf("b"): nil}, nil // whoever did not tell a key is asked for it as well
	s := scrub.New(setOf(small(), l))
	for _, x := range []struct {
		budget int
		want   string
	}{{1, asks("a")}, {1, asks("b")}, {5, asks("c")}, {2, asks("a", "b")}, {1, asks("c")}, {3, asks("a", "b", "c")}} {
		_, _, err := s.Step(nil, x.budget)
		wantNumber(t, "Step", err, api.OK)
		for i, d := range l {
			got := d.news()
			fatalUnless(t, got == x.want, "the drive %d was asked %s, not %s", i, got, x.want)
		}
	}
	s.Place()
	s.Seen()
	for _, d := range l {
		fatalUnless(t, d.news() == "", "a drive was asked where the walk is")
	}
}

// P29.3: the end is told with the last key, not behind it, and then the walk begins anew.
func TestTheEnd(t *testing.T) {
	for n := range 6 {
		var objects, keys []string
		for i := range n {
			keys = append(keys, fmt.Sprint("k", i))
			objects = append(objects, keys[i], "bytes")
		}
		for budget := 1; budget < 8; budget++ {
			p := paired(small(), func() []*spy { return shelves(small(), objects...) })
			for range 3 { // walks
				for from := 0; ; from += budget {
					to := min(from+budget, n)
					_, end, err := p.step(t, nil, budget)
					fatalUnless(t, err == api.OK && end == (to == n), "%d keys, from %d to %d: %v, %d", n, from, to, end, err)
					last := ""
					if to > 0 {
						last = keys[to-1]
					}
					wantAt(t, p.walk, last, to)
					if end {
						break
					}
				}
			}
		}
	}
}

// P29.3: of a store without keys there is nothing to be found, and the walk is at its end; what comes then is seen by the next one.
func TestNoKeys(t *testing.T) {
	set, _ := laid(t, small())
	s := scrub.New(set)
	for range 3 {
		wantStep(t, s, 1, true)
		wantAt(t, s, "", 0)
	}
	for place, x := range shardsOf(small(), "a", "hello", gen(1))[:2] {
		wantNumber(t, "Store", bay.Store(set.Disks[place], x), api.OK)
	}
	wantStep(t, s, 1, true, find("a", 2, api.FoundMissing, 1))
	wantAt(t, s, "a", 1)
}

// P29.3: keys that come and go while a walk is on its way: above its place they count, and others wait until it begins anew.
func TestKeysComeAndGo(t *testing.T) {
	shape := small()
	l := shelves(shape, "c", "1", "e", "2")
	come := func(key string) {
		for place, s := range shardsOf(shape, key, "new", gen(9)) {
			l[place].lay(nameOf(key), formOf(s))
		}
	}
	gone := func(keys ...string) {
		for _, key := range keys {
			for _, d := range l {
				delete(d.files, nameOf(key))
			}
		}
	}
	s := scrub.New(setOf(shape, l))
	wantStep(t, s, 1, false)
	wantAt(t, s, "c", 1)
	come("a") // behind the walk: not seen
	come("d") // ahead of it
	come("c\x00")
	gone("c") // the key at which it is
	wantStep(t, s, 1, false)
	wantAt(t, s, "c\x00", 2)
	wantStep(t, s, 1, false)
	wantAt(t, s, "d", 3)
	gone("e") // all that was ahead of it
	wantStep(t, s, 7, true)
	wantAt(t, s, "d", 3) // as before
	come("z")            // too late: it begins anew
	wantStep(t, s, 1, false)
	wantAt(t, s, "a", 1)
	wantStep(t, s, 9, true)
	wantAt(t, s, "z", 4)
	gone("a", "c", "c\x00", "d", "z")
	wantStep(t, s, 1, true)
	wantAt(t, s, "", 0) // it has begun anew, and there was no key
}

// P29.3: a walk at its end stays there while steps are refused, and then begins anew.
func TestRefusedAtTheEnd(t *testing.T) {
	for _, begin := range []int{1, 2} { // not at its end, at its end
		p := paired(small(), func() []*spy { return shelves(small(), "a", "1", "b", "2") })
		p.number(t, nil, begin, api.OK)
		p.number(t, nil, 0, api.ErrArg)
		p.number(t, fan.Done(true), 1, api.ErrStopped)
		for _, at := range []string{"List", "Read"} {
			p.each(func(_ *api.Set, l []*spy) { l[0].refuse(api.ErrDown, at) })
			p.number(t, nil, 1, api.ErrDown)
			p.each(func(_ *api.Set, l []*spy) { l[0].fate = nil })
		}
		p.each(func(_ *api.Set, l []*spy) { l[0].refuse(api.ErrIO, "List"); l[1].refuse(api.ErrIO, "List") })
		p.number(t, nil, 1, api.ErrQuorum)
		p.each(func(_ *api.Set, l []*spy) { l[0].fate, l[1].fate = nil, nil })
		p.each(func(set *api.Set, _ []*spy) { set.Last.Epoch = 0 })
		p.number(t, nil, 1, api.ErrArg)
		p.each(func(set *api.Set, _ []*spy) { set.Last.Epoch = 1 })
		p.number(t, nil, 1, api.OK)
		want := map[int]string{1: "b", 2: "a"}[begin]
		wantAt(t, p.walk, want, map[int]int{1: 2, 2: 1}[begin])
	}
}

// P29.3: how many drives must have told their keys: K, whichever they are and whatever they tell.
func TestHowManyMustTell(t *testing.T) {
	for _, shape := range shapes() {
		every(shape.K+shape.M, 5, func(ways []int) {
			var count [5]int
			for _, way := range ways {
				count[way]++
			}
			p := paired(shape, func() []*spy { return shelves(shape, "a", "hello") })
			p.each(func(set *api.Set, l []*spy) {
				for i, way := range ways {
					switch way {
					case 1:
						l[i].files = nil
					case 2:
						set.Disks[i] = nil
					case 3:
						l[i].refuse(api.ErrMissing, "List")
					case 4:
						l[i].refuse(api.ErrDown, "List")
					}
				}
			})
			want := api.OK
			switch {
			case count[4] > 0:
				want = api.ErrDown
			case count[0]+count[1] < shape.K:
				want = api.ErrQuorum
			}
			p.number(t, nil, 1, want)
			fatalUnless(t, p.walk.Seen() == map[bool]int{true: 1}[want == api.OK && count[0] > 0], "%v, %v: %d keys were seen", shape, ways, p.walk.Seen())
		})
	}
}

// P29.3: at each drive the List and each Read is refused with each number: ErrDown ends the step, whatever the others say; what is missing is nothing, and with all others the place is silent.
func TestEachCallRefused(t *testing.T) {
	for _, shape := range shapes() {
		for faulty := range shape.K + shape.M {
			for _, number := range numbers {
				for at, call := range []string{"Read \"o61\"", "Read \"o62\"", "Read \"o63\"", "Read \"o64\"", "List"} {
					p := paired(shape, func() []*spy { return shelves(shape, "a", "1", "b", "2", "c", "") })
					p.number(t, nil, 1, api.OK)
					p.each(func(_ *api.Set, l []*spy) { l[faulty].refuse(number, call) })
					want := api.OK
					if number == api.ErrDown && (at == 1 || at == 2 || at == 4) {
						want = api.ErrDown
					}
					finds := p.number(t, nil, 9, want)
					var found []api.Find
					if want == api.OK && (at == 1 || at == 2) && number != api.OK {
						kind := api.FoundSilent
						if number == api.ErrMissing {
							kind = api.FoundMissing
						}
						found = []api.Find{find(string(byte('a'+at)), faulty, kind, at+1)}
					}
					fatalUnless(t, slices.Equal(finds, found), "%v, %s at %d = %d: %v, not %v", shape, call, faulty, number, finds, found)
				}
			}
		}
	}
}

// P29.3: a drive whose names can't be asked is looked at all the same, and the names that it tells beside its refusal say nothing.
func TestWhoDoesNotTellIsLookedAt(t *testing.T) {
	p := paired(small(), func() []*spy { return shelves(small(), "a", "hello") })
	p.each(func(_ *api.Set, l []*spy) {
		l[2].refuse(api.ErrIO, "List")
		l[2].told = []string{nameOf("z")}
	})
	finds, end, err := p.step(t, nil, 5)
	fatalUnless(t, len(finds) == 0 && end && err == api.OK, "%v, %v, %d", finds, end, err)
	wantAt(t, p.walk, "a", 1)
}

// P29.3: it is looked whether it is stopped once at the beginning of each round, and never else; what done holds stays.
func TestStopped(t *testing.T) {
	for at := range 6 { // behind so many rounds
		for _, way := range []string{"close", "hold"} {
			p := paired(small(), func() []*spy { return shelves(small(), "a", "1", "b", "2", "c", "3", "d", "4") })
			p.number(t, nil, 1, api.OK)
			var dones []chan struct{}
			p.each(func(_ *api.Set, l []*spy) {
				done := make(chan struct{}, 1)
				dones = append(dones, done)
				stop := func(round int) {
					if round != at {
						return
					}
					if way == "close" {
						close(done)
					} else {
						done <- struct{}{}
					}
				}
				began := l[1].rounds
				l[1].over = func(round int) { stop(round + 1 - began) }
				stop(0)
			})
			place, seen := p.walk.Place(), p.walk.Seen()
			want, _, no := p.hand.step(dones[1], 3)
			got, _, err := p.walk.Step(dones[0], 3)
			fatalUnless(t, len(got) == 0 && len(want) == 0 && err == no && err == map[bool]api.Errno{true: api.ErrStopped}[at < 4], "stopped behind %d rounds: %v, %d, not %d", at, got, err, no)
			for i := range p.mine {
				fatalUnless(t, p.mine[i].rounds == 2+min(at, 4), "stopped behind %d rounds, there were %d", at, p.mine[i].rounds-2)
				fatalUnless(t, p.mine[i].news() == p.theirs[i].news(), "the drive %d was asked something else", i)
			}
			fatalUnless(t, way == "close" || len(dones[0]) == map[bool]int{true: 1}[at < 5], "what done holds was taken")
			if err != api.OK {
				wantAt(t, p.walk, place, seen)
			}
			p.each(func(_ *api.Set, l []*spy) { l[1].over = nil })
			p.number(t, nil, 1, api.OK)
		}
	}
}

// What is refused ahead of any round does not look at done: who waits to send on it, waits still.
func TestDoneIsNotLookedAt(t *testing.T) {
	for _, x := range []struct {
		budget int
		change func(set *api.Set)
	}{{0, func(*api.Set) {}}, {1, func(set *api.Set) { set.Shape.K = 3 }}} {
		set, _ := laid(t, small(), "a", "hello")
		s := scrub.New(set)
		x.change(set)
		done, ready, sent := make(chan struct{}), make(chan struct{}), make(chan struct{})
		go func() {
			close(ready)
			done <- struct{}{}
			close(sent)
		}()
		<-ready
		time.Sleep(2 * time.Millisecond)
		_, _, err := s.Step(done, x.budget)
		select {
		case <-sent:
			t.Fatalf("%d: done has been received from", err)
		case <-time.After(time.Millisecond):
		}
		<-done
		wantNumber(t, "Step", err, api.ErrArg)
	}
}

// P29.3: the power goes at each call of each drive in each round: the others go through to their end, then it is off at all. At a round's end it goes unseen by that round.
func TestThePower(t *testing.T) {
	shape := api.Shape{K: 2, M: 2, Block: 4}
	for struck := range 4 {
		for round := range 5 {
			for call := range 3 {
				p := paired(shape, func() []patient {
					_, w := laid(t, shape, "a", "1", "b", "2", "c", "3")
					return w
				})
				p.each(func(_ *api.Set, l []patient) { l[struck].Fuse(round, call, 9) })
				// round 0 tells the keys, and 1 to 3 look at one each
				want := api.ErrDown
				switch {
				case round > 3, round == 3 && call > 0:
					want = api.OK
				}
				p.number(t, nil, 3, want)
				for i, d := range p.mine {
					fatalUnless(t, d.On() == (round > 3), "struck in round %d: the power at the drive %d: %v", round, i, d.On())
				}
				if round > 3 { // it goes in the next step
					p.number(t, nil, 3, api.ErrDown)
				}
				p.number(t, nil, 3, api.ErrDown)
				p.each(func(_ *api.Set, l []patient) {
					for _, d := range l {
						d.Crash(api.Fate{})
						d.Power(true)
					}
				})
				p.number(t, nil, 3, api.OK)
				wantAt(t, p.walk, "c", 3)
			}
		}
	}
}

// Who is told that a round is over, and that the power is gone, in each round; from place 0 on.
func TestWhoIsStruck(t *testing.T) {
	shape := api.Shape{K: 3, M: 2, Block: 4}
	for struck := range 5 {
		for round := range 5 {
			p := paired(shape, func() []*spy { return shelves(shape, "a", "1", "b", "2") })
			p.each(func(set *api.Set, l []*spy) {
				set.Disks[1] = nil
				l[struck].struck = func(now int) bool { return now == round }
			})
			for range 3 {
				p.step(t, nil, 2)
			}
		}
	}
	l := shelves(shape, "a", "1")
	var told []int
	for i, d := range l {
		d.over = func(int) { told = append(told, i) }
	}
	_, _, err := scrub.New(setOf(shape, l)).Step(nil, 1)
	wantNumber(t, "Step", err, api.OK)
	fatalUnless(t, slices.Equal(told, []int{0, 1, 2, 3, 4, 0, 1, 2, 3, 4}), "the drives were told in the order %v", told)
}

// P29.3: names of all kinds are told, in whatever order and however often: the objects' names among them are the keys.
func TestNames(t *testing.T) {
	shape := small()
	var any256 []byte
	for i := range 256 {
		any256 = append(any256, byte(i))
	}
	keys := []string{"\x00", "\xff", "o61", "t", "l", "a/b", "ä", string(any256[1:]), string(any256[:255]), "\x00\x00", "\xff\xff"}
	for n := range 16 {
		keys = append(keys, strings.Repeat("k", 1+n*17%255), strings.Repeat("k", 255-n))
	}
	slices.Sort(keys)
	keys = slices.Compact(keys)
	var objects []string
	for _, key := range keys {
		objects = append(objects, key, "of "+key[:1])
	}
	strange := []string{"", "o", "o6", "o616", "O61", "o6G", "o6A", "61", " o61", "o61 ", "o61\n", "t", "l", "tt", nameOf(strings.Repeat("k", 256)), nameOf(""), strings.Repeat("o", 1024), "ä", "\xff"}
	r := source(292)
	for range 30 {
		seed := r.Int63()
		p := paired(shape, func() []*spy {
			r := source(seed)
			l := shelves(shape, objects...)
			for i, d := range l {
				d.told = slices.Clone(strange)
				for _, at := range r.Perm(len(keys)) {
					if r.Intn(3) > 0 || at%3 == i { // each is told by some drive
						d.told = append(d.told, nameOf(keys[at]))
					}
				}
				d.told = append(d.told, d.told[i:]...)
			}
			return l
		})
		budget, seen := 1+r.Intn(12), 0
		for end := false; !end; {
			var finds []api.Find
			finds, end, _ = p.step(t, nil, budget)
			fatalUnless(t, len(finds) == 0, "%v", finds)
			seen = min(seen+budget, len(keys))
			wantAt(t, p.walk, keys[seen-1], seen)
		}
	}
}

// P29.3: files that are no shard of their key and place are spoilt; a name that is told and not there is nothing.
func TestWhateverStands(t *testing.T) {
	shape := small()
	form := func(key, data string, place int, change func(s *api.Shard)) []byte {
		s := shardsOf(shape, key, data, gen(1))[place]
		change(&s)
		return formOf(s)
	}
	same := func(*api.Shard) {}
	for i, b := range [][]byte{
		nil, {0}, []byte("hello"),
		form("b", "hello", 1, same),
		form("a", "hello", 0, same),
		form("a", "hello", 1, func(s *api.Shard) { s.Store[0]++ }),
		form("a", "hello", 1, func(s *api.Shard) { s.Shape.M = 2 }),
		append(form("a", "hello", 1, same), 0),
		form("a", "hello", 1, same)[1:],
	} {
		p := paired(shape, func() []*spy { return shelves(shape, "a", "hello") })
		p.each(func(_ *api.Set, l []*spy) { l[1].lay(nameOf("a"), slices.Clone(b)) })
		finds := p.number(t, nil, 1, api.OK)
		fatalUnless(t, slices.Equal(finds, []api.Find{find("a", 1, api.FoundSpoilt, 1)}), "%d: %v", i, finds)
	}
	p := paired(shape, func() []*spy { return shelves(shape) })
	p.each(func(_ *api.Set, l []*spy) { l[1].told = []string{nameOf("a")} })
	fatalUnless(t, len(p.number(t, nil, 9, api.OK)) == 0, "something is found of nothing")
	wantAt(t, p.walk, "a", 1)
}

// P29.3: writings of each kind beside one another: those that count, older ones, and such as never counted.
func TestStrays(t *testing.T) {
	shape := api.Shape{K: 2, M: 2, Block: 4}
	l := shelves(shape, "a", "hello")
	lay := func(key, data string, g api.Gen, places ...int) {
		for _, i := range places {
			l[i].lay(nameOf(key), formOf(shardsOf(shape, key, data, g)[i]))
		}
	}
	lay("a", "older", gen(7), 3)
	lay("b", "half", gen(3), 0, 1)
	lay("b", "newer", gen(4), 2, 3)
	lay("c", "one", gen(5), 2)
	lay("d", "one", gen(6), 1)
	lay("d", "another", gen(6), 3)
	wantStep(t, scrub.New(setOf(shape, l)), 9, true,
		find("a", 3, api.FoundStray, 7),
		find("b", 0, api.FoundStray, 3), find("b", 1, api.FoundStray, 3),
		find("c", 2, api.FoundStray, 5),
		find("d", 1, api.FoundStray, 6), find("d", 3, api.FoundStray, 6))
}

// As many drives as there may be.
func TestManyDrives(t *testing.T) {
	for _, shape := range []api.Shape{{K: 254, M: 1, Block: 1}, {K: 128, M: 127, Block: 2}} {
		p := paired(shape, func() []*spy { return shelves(shape, "a", "hello", "b", strings.Repeat("many ", 100)) })
		p.each(func(set *api.Set, l []*spy) { l[254].files = nil })
		finds := p.number(t, nil, 2, api.OK)
		fatalUnless(t, slices.Equal(finds, []api.Find{find("a", 254, api.FoundMissing, 1), find("b", 254, api.FoundMissing, 2)}), "%v", finds)
	}
}

// A walk of plain drives, which are no wounds.
func TestPlainDrives(t *testing.T) {
	set := &api.Set{Shape: small(), Store: theStore(), Last: gen(1)}
	for place := range 3 {
		d := drive.New(1 << 16)
		set.Disks = append(set.Disks, d)
		wantNumber(t, "Store", bay.Store(d, shardsOf(small(), "a", "hello", gen(1))[place]), api.OK)
	}
	s := scrub.New(set)
	wantStep(t, s, 1, true)
	set.Disks[0].(*drive.Drive).Cut(nameOf("a"), 3)
	set.Disks[1] = (*wound.Wound)(nil) // its calls are refused with ErrNil
	wantStep(t, s, 1, true, find("a", -1, api.FoundUnknown, 0), find("a", 0, api.FoundSpoilt, 0), find("a", 1, api.FoundSilent, 0))
}

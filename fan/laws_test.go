package fan_test

import (
	"fmt"
	"slices"
	"testing"

	"cairn/api"
	"cairn/fan"
	"cairn/wound"
)

// ward is wounds at the places of a list, some of which have none.
type ward struct {
	wounds []*wound.Wound // nil: there is none
	disks  []api.Disk
}

func newWard(seeds []int64) ward {
	w := ward{make([]*wound.Wound, len(seeds)), make([]api.Disk, len(seeds))}
	for i, seed := range seeds {
		if seed%4 != 0 {
			w.wounds[i] = patient(seed)
			w.disks[i] = w.wounds[i]
		}
	}
	return w
}

// byHand is a round of P16.2, its jobs one behind the other, the last place first.
func (w ward) byHand(seed int64) []string {
	answers := make([]string, len(w.wounds))
	off := false
	for i, x := range slices.Backward(w.wounds) {
		answers[i] = "silent"
		if x != nil {
			answers[i] = treat(x, seed+int64(i))
			off = off || x.Struck()
		}
	}
	for _, x := range w.wounds {
		if x != nil {
			x.Rest(off)
		}
	}
	return answers
}

func (w ward) round(t *testing.T, seed int64) []string {
	t.Helper()
	l, err := fan.Each(w.disks, nil, func(i int, d api.Disk) string { return treat(d, seed+int64(i)) }, "silent")
	fatalUnless(t, err == api.OK && len(l) == len(w.disks), "Each = %q, %d", l, err)
	return l
}

// P16.2, P16.4: many rounds over wounds to which things are done between the rounds, against the same rounds with the jobs one behind the other.
func TestRoundsByHand(t *testing.T) {
	r := source(165)
	lost := 0
	for range 400 {
		seeds := make([]int64, r.Intn(12))
		for i := range seeds {
			seeds[i] = r.Int63()
		}
		a, b := newWard(seeds), newWard(seeds)
		for range 12 {
			for i := range seeds {
				seed := r.Int63()
				if a.wounds[i] != nil {
					strike(a.wounds[i], seed)
					strike(b.wounds[i], seed)
				}
			}
			seed := r.Int63()
			got, want := a.round(t, seed), b.byHand(seed)
			fatalUnless(t, slices.Equal(got, want), "the round answers %q, not %q", got, want)
			for i, x := range a.wounds {
				if x != nil {
					fatalUnless(t, chart(x) == chart(b.wounds[i]) && x.On() == b.wounds[i].On(), "at %d it comes to %s, not %s", i, chart(x), chart(b.wounds[i]))
					if !x.On() {
						lost++
					}
				}
			}
		}
	}
	fatalUnless(t, lost > 1000, "the power is off only %d times", lost)
}

// P16.4: one drive and its job, at one place, beside unlike others: the same answer, the same comes of the drive, but for the power; and the power as it was, but behind a round in which some drive was struck.
func TestPlacesHangOnTheirDriveAlone(t *testing.T) {
	r := source(166)
	seen := map[string]int{}
	for range 1500 {
		n := 1 + r.Intn(9)
		at, mine, job := r.Intn(n), 1+4*r.Int63n(1<<40), r.Int63()
		var blows []int64
		for range r.Intn(4) {
			blows = append(blows, r.Int63())
		}
		answer, state := "", ""
		for company := range 4 {
			seeds := make([]int64, n)
			for i := range seeds {
				seeds[i] = r.Int63()
			}
			seeds[at] = mine
			w := newWard(seeds)
			struck := hurt(w, at, blows, r.Int63())
			was := make([]bool, n)
			for i, x := range w.wounds {
				was[i] = x.On()
			}
			jobs := func(i int, d api.Disk) string {
				if i == at {
					return treat(d, job)
				}
				return treat(d, job+int64(company+1)*int64(i+1))
			}
			l, err := fan.Each(w.disks, nil, jobs, "silent")
			fatalUnless(t, err == api.OK && len(l) == n, "Each = %q, %d", l, err)
			if company == 0 {
				answer, state = l[at], chart(w.wounds[at])
			}
			fatalUnless(t, l[at] == answer && chart(w.wounds[at]) == state, "beside others it answers %q and comes to %s; it was %q and %s", l[at], chart(w.wounds[at]), answer, state)
			for i, x := range w.wounds {
				fatalUnless(t, x.On() == (was[i] && !struck), "at %d the power was on: %v, struck: %v, and is on: %v", i, was[i], struck, x.On())
			}
			seen[fmt.Sprint("struck ", struck)]++
		}
	}
	fatalUnless(t, seen["struck true"] > 500 && seen["struck false"] > 500, "too few of %v", seen)
}

// hurt does the blows to the drive at that place and others to the others, and tells whether any drive is struck in the round to come.
func hurt(w ward, at int, blows []int64, others int64) bool {
	struck := false
	for i, x := range w.wounds {
		if i == at {
			for _, blow := range blows {
				strike(x, blow)
			}
		} else if x != nil {
			strike(x, others+int64(i))
		}
		struck = struck || x.Struck()
	}
	return struck
}

// P16.4: the power goes at each place in turn, ahead of each call and behind the last: the others end their jobs, and then it is off everywhere.
func TestPowerGoesAtEachPlace(t *testing.T) {
	job := func(i int, d api.Disk) [3]api.Errno {
		return [3]api.Errno{d.Create("a"), d.Append("a", []byte("xyz")), d.Sync("a")}
	}
	for n := 1; n < 7; n++ {
		for at := range n {
			for call := range 5 {
				disks, wounds := make([]api.Disk, n), make([]*wound.Wound, n)
				for i := range n {
					wounds[i] = patient(1)
					wounds[i].Wipe()
					disks[i] = wounds[i]
				}
				wounds[at].Fuse(0, call, 2)
				l, err := fan.Each(disks, nil, job, [3]api.Errno{})
				want := slices.Repeat([][3]api.Errno{{}}, n)
				for k := call; k < 3; k++ {
					want[at][k] = api.ErrDown
				}
				wantEach(t, l, err, want...)
				for i, w := range wounds {
					used := 3
					if i == at {
						used = []int{0, 2, 3, 3, 3}[call]
					}
					fatalUnless(t, !w.On() && !w.Struck() && w.Used() == used, "fuse at %d, %d: at %d the power is on: %v, %d bytes", at, call, i, w.On(), w.Used())
				}
				l, err = fan.Each(disks, nil, job, [3]api.Errno{})
				down := [3]api.Errno{api.ErrDown, api.ErrDown, api.ErrDown}
				wantEach(t, l, err, slices.Repeat([][3]api.Errno{down}, n)...)
			}
		}
	}
}

// P16.5: no element is there more often than Most's, and Most's as often as it says; in another order the number is the same.
func TestMostInAnyOrder(t *testing.T) {
	r := source(167)
	for range 3000 {
		l := some(r.Intn, r.Intn(30), 0, 1, 2, 3, 4, 5)
		x, n := fan.Most(l)
		fatalUnless(t, fan.Count(l, x) == n, "Most(%v) = %d, %d, and it is there %d times", l, x, n, fan.Count(l, x))
		for _, y := range l {
			fatalUnless(t, fan.Count(l, y) <= n, "Most(%v) = %d, %d, and %d is there %d times", l, x, n, y, fan.Count(l, y))
		}
		for range 4 {
			r.Shuffle(len(l), func(i, j int) { l[i], l[j] = l[j], l[i] })
			_, m := fan.Most(l)
			fatalUnless(t, m == n, "Most(%v) = %d, and in another order %d", l, m, n)
		}
	}
}

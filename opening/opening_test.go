package opening_test

import (
	"fmt"
	"math"
	"slices"
	"testing"

	"cairn/api"
	"cairn/drive"
	"cairn/label"
	"cairn/opening"
	"cairn/wound"
)

// numbers are answers of a drive; the first is OK.
var numbers = []api.Errno{0, 110, 120, 121, 122, 111, 112, 91, 150, 151, 1, 2, 170, 180, 181, 230, 160, 7, -1, -7, math.MaxInt, math.MinInt}

// The chapter's examples of drives, row by row.
func TestExamplesOfDrives(t *testing.T) {
	w := ward(3, 4096)
	wantNumber(t, "Format", opening.Format(listOf(w, 0, 1, 2), small(), [8]byte{'A'}), api.OK)
	set := wantOpen(t, w, []int{0, 1, 2}, []int{0, 1, 2}, 1)
	fatalUnless(t, set.Shape == small() && set.Store == [8]byte{'A'}, "Open = %v", set)
	wantOpen(t, w, []int{1, 2}, []int{-1, 1, 2}, 2)
	wantOpen(t, w, []int{2, 0, 1}, []int{0, 1, 2}, 3)
	wantNumber(t, "Format of two", opening.Format(listOf(w, 0, 1), small(), [8]byte{'A'}), api.ErrArg)
	for faulty := range 3 {
		w = ward(3, 4096)
		w[faulty].Arm([]api.Fault{{At: 0, Kind: api.FaultIO}})
		wantNumber(t, "Format with a fault", opening.Format(listOf(w, 0, 1, 2), small(), [8]byte{'A'}), api.ErrDegraded)
	}
}

// spies makes so many drives, each as the function says.
func spies(n int, anew func(i int) *spy) func() []subject {
	return func() []subject {
		var l []subject
		for i := range n {
			if s := anew(i); s != nil {
				l = append(l, s)
			} else {
				l = append(l, nil)
			}
		}
		return l
	}
}

// P18.2: shapes that may not be, and such as may, with just as many drives, with one more, with one fewer, and with none at one place: then no drive is called.
func TestFormatArguments(t *testing.T) {
	plain := func(int) *spy { return &spy{} }
	for _, m := range flawed() {
		if s := m.Label.Shape; !isShape(s) {
			for n := range 5 {
				wantNumber(t, fmt.Sprint("Format of ", s), checkFormat(t, spies(n, plain), s, [8]byte{}), api.ErrShape)
				wantNumber(t, fmt.Sprint("Format of ", s), checkFormat(t, spies(n, func(int) *spy { return nil }), s, [8]byte{}), api.ErrShape)
			}
		}
	}
	for _, s := range []api.Shape{{K: 1, M: 1, Block: 1}, small(), {K: 2, M: 2, Block: 65536}, {K: 254, M: 1, Block: 7}, {K: 128, M: 127, Block: 7}} {
		n := s.K + s.M
		for _, other := range []int{0, 1, s.K, s.M, n - 1, n + 1, 2 * n, 256} {
			if other != n {
				wantNumber(t, fmt.Sprint("Format of ", other), checkFormat(t, spies(other, plain), s, [8]byte{}), api.ErrArg)
			}
		}
		for missing := range n {
			without := func(i int) *spy {
				if i == missing {
					return nil
				}
				return &spy{}
			}
			wantNumber(t, "Format", checkFormat(t, spies(n, without), s, [8]byte{}), api.ErrArg)
		}
		wantNumber(t, "Format", checkFormat(t, spies(n, plain), s, [8]byte{1, 2, 3, 4, 5, 6, 7, 255}), api.OK)
	}
	for _, d := range []subject{nil, &spy{}} {
		err := opening.Format(disksOf([]subject{d}), api.Shape{K: math.MaxInt, M: math.MaxInt - 2, Block: 1}, [8]byte{})
		wantNumber(t, "Format", err, api.ErrShape)
	}
}

// Every shape whose numbers are near their limits, without a drive.
func TestFormatEveryShape(t *testing.T) {
	for k := -2; k < 260; k++ {
		for m := -2; m < 260; m++ {
			for _, block := range []int{-1, 0, 1, 65536, 65537} {
				s := api.Shape{K: k, M: m, Block: block}
				want := api.ErrShape
				if isShape(s) {
					want = api.ErrArg
				}
				if err := opening.Format(nil, s, [8]byte{}); err != want {
					t.Fatalf("Format of none of %v = %d, not %d", s, err, want)
				}
			}
		}
	}
}

// lists are what drives tell, in their order and not, with names of each kind and such as no drive has.
func lists() [][]string {
	return [][]string{
		nil,
		{"l"},
		{"t"},
		{"l", "t"},
		{"o61"},
		{"l", "o61", "o62", "t"},
		{"k", "l", "m"},
		{"a", "b", "c"},
		{"t", "o62", "o61", "l", "a"},
		{"z", "l", "a"},
		{"l", "l"},
		{"a", "a", "l", "b", "a", "l", "b"},
		{"", "l", "\x00", "\xff", "L", "ll", "kz", "k"},
		{"m", "l\x00", "l", "kÿ"},
	}
}

// P18.2: each drive's calls in their order, whatever it tells, up to the first that is refused, with whatever number.
func TestFormatCalls(t *testing.T) {
	met := map[api.Errno]int{}
	for _, names := range lists() {
		for call := range 8 + len(names) {
			for _, number := range numbers {
				for faulty := range 3 {
					met[checkFormat(t, spies(3, func(i int) *spy {
						s := &spy{names: names}
						if i == faulty {
							s.errs = map[int]api.Errno{call: number}
						}
						return s
					}), small(), [8]byte{9, 8, 7})]++
				}
			}
		}
	}
	for _, err := range []api.Errno{api.OK, api.ErrDown, api.ErrDegraded} {
		fatalUnless(t, met[err] > 100 && len(met) == 3, "%v", met)
	}
}

// P18.2: the order by itself: the label's name first, then those that rise.
func TestFormatOrder(t *testing.T) {
	for _, x := range []struct {
		names, order []string
	}{
		{[]string{"a", "l", "o61", "t"}, []string{"l", "a", "o61", "t"}},
		{[]string{"t", "o61", "l", "a"}, []string{"l", "a", "o61", "t"}},
		{[]string{"o62", "o61"}, []string{"o61", "o62"}},
		{[]string{"l"}, []string{"l"}},
		{nil, nil},
	} {
		s := &spy{names: x.names}
		wantNumber(t, "Format", opening.Format([]api.Disk{s, &spy{}}, api.Shape{K: 1, M: 1, Block: 1}, [8]byte{}), api.OK)
		want := []string{"List"}
		for _, name := range x.order {
			want = append(want, fmt.Sprintf("Remove %q", name))
		}
		want = append(want, "SyncDir", `Create "t"`, fmt.Sprintf(`Append "t" %v`, form(api.Label{Shape: api.Shape{K: 1, M: 1, Block: 1}})), `Sync "t"`, `Rename "t" "l"`, "SyncDir", "Struck", "Rest false")
		fatalUnless(t, slices.Equal(s.asked, want), "the drive was asked %q, not %q", s.asked, want)
	}
}

// P18.2: what drives that end well, are refused or lose the power come to, at all places in all ways.
func TestFormatAnswers(t *testing.T) {
	for n := 2; n <= 5; n++ {
		shape := api.Shape{K: n - 1, M: 1, Block: 3}
		ways := []api.Errno{api.OK, api.ErrIO, api.ErrDown, api.ErrMissing}
		for number := range 1 << (2 * n) {
			want := api.OK
			down := false
			for i := range n {
				switch ways[number>>(2*i)&3] {
				case api.ErrDown:
					down = true
				case api.OK:
				default:
					want = api.ErrDegraded
				}
			}
			if down {
				want = api.ErrDown
			}
			wantNumber(t, "Format", checkFormat(t, spies(n, func(i int) *spy {
				return &spy{errs: map[int]api.Errno{(number + i) % 7: ways[number>>(2*i)&3]}}
			}), shape, [8]byte{5}), want)
		}
	}
}

// P18.2, P18.4: the power goes at each call of each drive: the others go through to their end, then it is off at all. Behind the last call it goes unseen: Format answers OK.
func TestFormatAndThePower(t *testing.T) {
	files := []api.File{{Name: "l", Data: []byte("x")}, {Name: "o61", Data: []byte("y")}, {Name: "t"}}
	for struck := range 3 {
		for call := range 12 {
			for _, inside := range []int{0, 1, 30, 31, 99} {
				want := api.ErrDown
				if call > 9 {
					want = api.OK
				}
				anew := func() []subject {
					var l []subject
					for i := range 3 {
						w := wound.New(drive.Load(100, files))
						if i == struck {
							w.Fuse(0, call, inside)
						}
						l = append(l, patient{w})
					}
					return l
				}
				wantNumber(t, "Format", checkFormat(t, anew, small(), [8]byte{3}), want)
				l := anew()
				opening.Format(disksOf(l), small(), [8]byte{3})
				for i, s := range l {
					w := s.(patient).Wound
					fatalUnless(t, !w.On(), "the power is on at the drive %d", i)
					if i != struck {
						want := api.Label{Store: [8]byte{3}, Shape: small(), Index: i}
						fatalUnless(t, labelOn(t, w) == want && len(w.Safe()) == 1, "the drive %d holds %v", i, w.Safe())
					}
				}
			}
		}
	}
}

// P18.3: more than 255 drives, there or not: none is called. Just 255 are asked.
func TestOpenArguments(t *testing.T) {
	for _, n := range []int{256, 257, 1000} {
		wantNumber(t, "Open", checkOpen(t, spies(n, func(i int) *spy { return &spy{bytes: form(at('A', i%3, 5).Label)} })), api.ErrArg)
		wantNoSet(t, make([]api.Disk, n), api.ErrArg)
	}
	wantNumber(t, "Open", checkOpen(t, spies(255, func(i int) *spy { return &spy{bytes: form(at('A', i%3, 5).Label)} })), api.OK)
	for n := range 256 {
		wantNoSet(t, make([]api.Disk, n), api.ErrQuorum)
	}
}

// P18.3: whatever a drive answers when it is asked for its label, beside two places, beside one, and alone.
func TestOpenReadings(t *testing.T) {
	met := map[api.Errno]int{}
	a := at('A', 2, 7).Label
	spoilt := form(a)
	spoilt[20] ^= 1
	for _, bytes := range [][]byte{nil, {1}, form(a), spoilt, form(at('A', 0, 9).Label), form(at('B', 0, 9).Label), append(form(a), 0), form(a)[:30]} {
		for _, number := range numbers {
			for asked := range 3 {
				for _, others := range []func(i int) *spy{
					func(i int) *spy { return &spy{bytes: form(at('A', i, 5).Label)} },
					func(i int) *spy { return &spy{bytes: form(at('A', 0, 5+i).Label)} },
					func(i int) *spy { return nil },
				} {
					met[checkOpen(t, spies(3, func(i int) *spy {
						if i == asked {
							return &spy{bytes: bytes, errs: map[int]api.Errno{0: number}}
						}
						return others((i + 2 - asked) % 3) // 0 and 1
					}))]++
				}
			}
		}
	}
	for _, err := range []api.Errno{api.OK, api.ErrDown, api.ErrQuorum} {
		fatalUnless(t, met[err] > 50, "%d: %d times of %v", err, met[err], met)
	}
}

// P18.3: each drive's calls in their order, up to the first that is refused in the second round, with whatever number; one drive stands nowhere.
func TestOpenCalls(t *testing.T) {
	met := map[api.Errno]int{}
	for _, names := range lists() {
		for call := range 11 {
			for _, number := range numbers {
				for faulty := range 4 {
					met[checkOpen(t, spies(4, func(i int) *spy {
						s := &spy{names: names, bytes: form(at('A', i%3, 5+i).Label)}
						if i == faulty {
							s.errs = map[int]api.Errno{call: number}
						}
						return s
					}))]++
				}
			}
		}
	}
	fatalUnless(t, met[api.OK] > 1000 && met[api.ErrDown] > 100 && len(met) == 2, "%v", met)
}

// P18.3: the calls by themselves, of a drive that stands, of a blank one, and of one that stands nowhere.
func TestOpenOrder(t *testing.T) {
	old, new := at('A', 0, 5).Label, at('A', 0, 6).Label
	stands := &spy{bytes: form(old), names: []string{"l", "t"}}
	empty := &spy{names: []string{"o61"}}
	beside := &spy{bytes: form(at('B', 1, 5).Label), names: []string{"t"}}
	other := &spy{bytes: form(at('A', 2, 3).Label)}
	set, err := opening.Open([]api.Disk{beside, empty, nil, stands, other})
	fatalUnless(t, err == api.OK && slices.Equal(set.Disks, []api.Disk{stands, empty, other}) && set.Last == api.Gen{Epoch: 6, Count: 0}, "Open = %v, %d", set, err)
	write := func(l api.Label) []string {
		return []string{`Create "t"`, fmt.Sprintf(`Append "t" %v`, form(l)), `Sync "t"`, `Rename "t" "l"`, "SyncDir", "Struck", "Rest false"}
	}
	first := []string{`Read "l"`, "Struck", "Rest false"}
	for _, x := range []struct {
		s    *spy
		want []string
	}{
		{stands, slices.Concat(first, []string{"List", `Remove "t"`, "SyncDir"}, write(new))},
		{empty, slices.Concat(first, []string{"List", "SyncDir"}, write(at('A', 1, 6).Label))},
		{other, slices.Concat(first, []string{"List", "SyncDir"}, write(at('A', 2, 6).Label))},
		{beside, slices.Concat(first, []string{"Struck", "Rest false"})},
	} {
		fatalUnless(t, slices.Equal(x.s.asked, x.want), "the drive was asked %q, not %q", x.s.asked, x.want)
	}
}

// P18.3: how many drives must go through to the end: K of them, whichever; those that did not stand there all the same.
func TestOpenQuorum(t *testing.T) {
	for _, shape := range []api.Shape{{K: 1, M: 1, Block: 4}, {K: 2, M: 1, Block: 4}, {K: 2, M: 2, Block: 4}, {K: 3, M: 2, Block: 4}, {K: 4, M: 1, Block: 4}} {
		n := shape.K + shape.M
		for ways := range 1 << n {
			for call := 1; call < 8; call++ {
				well := 0
				for i := range n {
					well += 1 - ways>>i&1
				}
				want := api.ErrQuorum
				if well >= shape.K {
					want = api.OK
				}
				anew := spies(n+2, func(i int) *spy {
					if i >= n {
						return &spy{bytes: form(at('B', 0, 99).Label)} // stands nowhere: it is not counted
					}
					s := &spy{bytes: form(api.Label{Shape: shape, Index: i, Epoch: 1})}
					if ways>>i&1 == 1 {
						s.errs = map[int]api.Errno{call: api.ErrIO}
					}
					return s
				})
				wantNumber(t, "Open", checkOpen(t, anew), want)
				disks := disksOf(anew())
				if set, err := opening.Open(disks); err == api.OK {
					fatalUnless(t, slices.Equal(set.Disks, disks[:n]), "at the places stand %v, not %v", set.Disks, disks)
				}
			}
		}
	}
}

// P18.3: a drive that answers ErrDown ends it, whatever the others say: in the first round ahead of what Arrange says, in the second one ahead of ErrQuorum.
func TestOpenAndErrDown(t *testing.T) {
	for down := range 3 {
		for call := range 8 {
			for _, flaw := range []api.Errno{api.OK, api.ErrIO, api.ErrOffline, api.ErrMissing} {
				for flawAt := range 8 {
					if (call == 0) != (flawAt == 0) { // both in one round
						continue
					}
					wantNumber(t, "Open", checkOpen(t, spies(3, func(i int) *spy {
						if i == down {
							return &spy{bytes: form(at('A', i, 5).Label), errs: map[int]api.Errno{call: api.ErrDown}}
						}
						return &spy{bytes: form(at('A', i, 5).Label), errs: map[int]api.Errno{flawAt: flaw}}
					})), api.ErrDown)
				}
			}
		}
	}
	for _, err := range []api.Errno{api.ErrDown, api.OK} { // ahead of ErrQuorum, ErrDrives and ErrWorn
		for _, marks := range [][]api.Mark{{at('A', 0, 5)}, {at('A', 0, 5), at('A', 1, 5), at('B', 0, 5), at('B', 1, 5)}, {at('A', 0, api.MaxEpoch), at('A', 1, 5)}} {
			number := checkOpen(t, spies(len(marks)+1, func(i int) *spy {
				if i == len(marks) {
					return &spy{errs: map[int]api.Errno{0: err}}
				}
				return &spy{bytes: form(marks[i].Label)}
			}))
			fatalUnless(t, (number == api.ErrDown) == (err == api.ErrDown) && number != api.OK, "Open = %d", number)
		}
	}
}

// P18.3: an epoch at its end, of a store that is met, at whichever drive; one below it is the last that opens.
func TestWorn(t *testing.T) {
	for _, epochs := range [][]int{{api.MaxEpoch, 0, 0}, {0, api.MaxEpoch, 3}, {5, 5, api.MaxEpoch}, {api.MaxEpoch, api.MaxEpoch, api.MaxEpoch}} {
		anew := spies(3, func(i int) *spy { return &spy{bytes: form(at('A', i, epochs[i]).Label)} })
		wantNumber(t, "Open", checkOpen(t, anew), api.ErrWorn)
		wantNoSet(t, disksOf(anew()), api.ErrWorn)
	}
	w := ward(3, 100)
	for i, x := range w {
		wantNumber(t, "Write", label.Write(x, at('A', i, api.MaxEpoch-1).Label), api.OK)
	}
	wantOpen(t, w, []int{0, 1, 2}, []int{0, 1, 2}, api.MaxEpoch)
	before := fmt.Sprint(w[0].Image(), w[1].Image(), w[2].Image())
	wantNoSet(t, listOf(w, 2, 1, 0), api.ErrWorn)
	wantNoSet(t, listOf(w, 2, 1), api.ErrWorn)
	fatalUnless(t, fmt.Sprint(w[0].Image(), w[1].Image(), w[2].Image()) == before, "something was written")
	wantNumber(t, "Format", opening.Format(listOf(w, 0, 1, 2), small(), [8]byte{'A'}), api.OK)
	wantOpen(t, w, []int{0, 1, 2}, []int{0, 1, 2}, 1)
	worn := with(at('A', 0, api.MaxEpoch), func(l *api.Label) { l.Store[5] = 1 })
	wantNumber(t, "Open beside a worn one that is not met", checkOpen(t, spies(3, func(i int) *spy {
		return &spy{bytes: form([]api.Mark{worn, at('A', 1, 5), at('A', 2, 5)}[i].Label)}
	})), api.OK)
}

// P18.4: who is told that a round is over, and that the power is gone, in each round of each call, also where a drive stands nowhere.
func TestWhoIsStruck(t *testing.T) {
	for struck := range 5 {
		for round := range 4 {
			anew := spies(5, func(i int) *spy {
				if i == 2 {
					return nil
				}
				s := &spy{bytes: form(at("AAAAB"[i], i%3, 5).Label)}
				if i == struck {
					s.struck = round
				}
				return s
			})
			checkOpen(t, anew)
			l := anew()
			opening.Open(disksOf(l))
			for i, s := range l {
				if s != nil {
					told := s.(*spy).asked
					first, second := fmt.Sprint("Rest ", round == 1 && struck != 2), fmt.Sprint("Rest ", round == 2 && struck != 2)
					fatalUnless(t, slices.Equal(told[:3], []string{`Read "l"`, "Struck", first}) && told[len(told)-1] == second, "the drive %d was asked %q, and the drive %d struck in round %d", i, told, struck, round)
				}
			}
			checkFormat(t, spies(3, func(i int) *spy {
				s := &spy{}
				if i == struck {
					s.struck = round
				}
				return s
			}), small(), [8]byte{})
		}
	}
}

// P18.4: the power goes at the first round's end, behind all its calls: the second round is refused, and nothing was written; at the second one's end Open answers OK, and the power is off.
func TestThePowerGoesAtARoundsEnd(t *testing.T) {
	for struck := range 4 {
		for round := range 2 {
			w := formatted(t, small(), 'A', 100)
			w = append(w, ward(1, 100)...)
			w[struck].Fuse(round, 99, 0)
			before := fmt.Sprint(w[0].Image(), w[1].Image(), w[2].Image())
			set, err := opening.Open(listOf(w, 3, 1, 2, 0))
			want := []api.Errno{api.ErrDown, api.OK}[round]
			fatalUnless(t, err == want && (set != nil) == (round == 1), "Open = %v, %d, not %d", set, err, want)
			for i, x := range w {
				fatalUnless(t, !x.On(), "the power is on at the drive %d", i)
			}
			same := fmt.Sprint(w[0].Image(), w[1].Image(), w[2].Image()) == before
			fatalUnless(t, same == (round == 0), "the drives hold what they held: %v", same)
		}
	}
}

// P18.4: a drive that stands nowhere is in the second round too: its fuse goes on burning.
func TestFusesBurnWhereNobodyStands(t *testing.T) {
	w := formatted(t, small(), 'A', 100)
	w = append(w, formatted(t, api.Shape{K: 3, M: 3, Block: 3}, 'B', 100)[0])
	w[3].Fuse(2, 0, 0)
	wantOpen(t, w, []int{3, 1, 2, 0}, []int{0, 1, 2}, 1)
	fatalUnless(t, w[3].Struck() && w[3].Calls() == 1, "two rounds are over, and the fuse is not down; %d calls", w[3].Calls())
	wantNoSet(t, listOf(w, 0, 1, 3, 2), api.ErrDown)
}

// P18.3: a drive that came back empty, or whose label is spoilt, gets the label of a place that is left, and keeps the files of objects that it holds.
func TestBlankDrivesAreTakenIn(t *testing.T) {
	w := formatted(t, small(), 'A', 1000)
	wantOpen(t, w, []int{0, 1, 2}, []int{0, 1, 2}, 1)
	w[1].Wipe()
	wantOpen(t, w, []int{2, 1, 0}, []int{0, 1, 2}, 2)
	fatalUnless(t, labelOn(t, w[1]) == at('A', 1, 2).Label, "the drive bears %v", labelOn(t, w[1]))
	w[0].Create("o61")
	w[0].Append("o61", []byte("x"))
	w[0].Flip("l", 5, []byte{1})
	wantOpen(t, w, []int{2, 1, 0}, []int{0, 1, 2}, 3)
	fatalUnless(t, labelOn(t, w[0]) == at('A', 0, 3).Label && w[0].Used() == 32, "the drive holds %v", w[0].Image())
	spare := append(w, ward(2, 1000)...)
	wantOpen(t, spare, []int{3, 2, 4, 1}, []int{3, 1, 2}, 4)
	fatalUnless(t, labelOn(t, spare[3]) == at('A', 0, 4).Label && spare[4].Used() == 0, "the spare drives hold %v, %v", spare[3].Image(), spare[4].Image())
	wantOpen(t, spare, []int{0, 1, 2, 3, 4}, []int{3, 1, 2}, 5) // the first one's label has an older epoch
	fatalUnless(t, labelOn(t, w[0]) == at('A', 0, 3).Label, "the drive that stands nowhere bears %v", labelOn(t, w[0]))
}

// P18.3: no room for a second label: no drive goes through, and the old labels stand.
func TestNoRoom(t *testing.T) {
	w := formatted(t, small(), 'A', 61)
	wantNoSet(t, listOf(w, 0, 1, 2), api.ErrQuorum)
	for i, x := range w {
		fatalUnless(t, labelOn(t, x) == at('A', i, 0).Label, "the drive %d bears %v", i, labelOn(t, x))
	}
	w = ward(3, 30)
	wantNumber(t, "Format", opening.Format(listOf(w, 0, 1, 2), small(), [8]byte{'A'}), api.ErrDegraded)
}

// Interfaces that hold a nil *Wound or *Drive are drives to Go: they answer ErrNil, so that they are silent, and Format does not go through.
func TestDrivesThatHoldNothing(t *testing.T) {
	w := formatted(t, small(), 'A', 100)
	var noWound *wound.Wound
	var noDrive *drive.Drive
	set, err := opening.Open([]api.Disk{noWound, w[0], noDrive, w[2]})
	fatalUnless(t, err == api.OK && slices.Equal(set.Disks, []api.Disk{w[0], nil, w[2]}), "Open = %v, %d", set, err)
	wantNoSet(t, []api.Disk{noWound, noDrive}, api.ErrQuorum)
	wantNumber(t, "Format", opening.Format([]api.Disk{w[0], noWound, noDrive}, small(), [8]byte{}), api.ErrDegraded)
}

// P18.2, P18.3: wounds with any files, plans and fuses, against the chapter's words on others that are like them.
func TestAnyWounds(t *testing.T) {
	r := source(182)
	met := map[string]int{}
	for range 6000 {
		seeds := make([]int64, r.Intn(8))
		for i := range seeds {
			seeds[i] = r.Int63()
		}
		anew := func() []subject {
			var l []subject
			for _, seed := range seeds {
				l = append(l, someWound(seed))
			}
			return l
		}
		met[fmt.Sprint("Open ", int(checkOpen(t, anew)))]++
		if n := len(seeds); n > 1 {
			shape := api.Shape{K: n - n/2, M: n / 2, Block: 1 + n}
			met[fmt.Sprint("Format ", int(checkFormat(t, anew, shape, [8]byte{byte(n)})))]++
		}
	}
	for _, what := range []string{"Open 0", "Open 122", "Open 170", "Open 180", "Open 181", "Format 0", "Format 122", "Format 230"} {
		fatalUnless(t, met[what] > 50, "%s: %d times of %v", what, met[what], met)
	}
}

// someWound is one of the seed, or none: with a label near those of others, other files, and all that may strike it.
func someWound(seed int64) subject {
	r := source(seed)
	var files []api.File
	switch r.Intn(9) {
	case 0:
		return nil
	case 1:
	case 2:
		files = append(files, api.File{Name: "l", Data: []byte("no label")})
	default:
		l := at(pick(r, byte('A'), 'A', 'A', 'B'), r.Intn(3), pick(r, 3, 3, 4)).Label
		if r.Intn(40) == 0 {
			l.Epoch = api.MaxEpoch
		}
		files = append(files, api.File{Name: "l", Data: form(l)})
	}
	for _, name := range []string{"t", "o61", "k", "zz"} {
		if r.Intn(3) == 0 {
			files = append(files, api.File{Name: name, Data: make([]byte, r.Intn(9))})
		}
	}
	w := wound.New(drive.Load(pick(r, 40, 70, 1000, 1000, 1000), files))
	if r.Intn(4) == 0 {
		w.Remove("t")
		w.Rename("zz", "t")
	}
	w.Rest(false)
	switch r.Intn(12) {
	case 0, 1, 2:
		w.Arm([]api.Fault{{At: r.Intn(12), Kind: pick(r, api.FaultIO, api.FaultFull)}, {At: r.Intn(12), Kind: api.FaultIO}})
	case 3:
		w.Fuse(r.Intn(3), r.Intn(12), r.Intn(40))
	case 4:
		w.Offline(true)
	case 5:
		if r.Intn(4) == 0 {
			w.Power(false)
		}
	}
	return patient{w}
}

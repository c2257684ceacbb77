package label_test

import (
	"bytes"
	"encoding/binary"
	"fmt"
	"maps"
	"math/bits"
	"math/rand"
	"slices"
	"testing"

	"cairn/api"
	"cairn/crc"
	"cairn/drive"
	"cairn/label"
)

// P15.5: there and back, from the label and from the bytes; unlike labels have unlike bytes.
func TestThereAndBack(t *testing.T) {
	r := source(153)
	labels := edgeLabels()
	for range 20000 {
		labels = append(labels, someLabel(r))
	}
	forms := map[string]api.Label{}
	for _, l := range labels {
		b, err := label.Encode(l)
		fatalUnless(t, err == api.OK && len(b) == 31, "Encode(%v) = %v, %d", l, b, err)
		back, err := label.Parse(b)
		fatalUnless(t, back == l && err == api.OK, "Parse of the bytes of %v = %v, %d", l, back, err)
		again, err := label.Encode(back)
		fatalUnless(t, bytes.Equal(again, b) && err == api.OK, "%v is %v again, %d", b, again, err)
		other, there := forms[string(b)]
		fatalUnless(t, !there || other == l, "%v and %v have the bytes %v", l, other, b)
		forms[string(b)] = l
	}
}

// P15.5: bytes that Parse takes are just those that Encode writes, whatever they are.
func TestBackAndThere(t *testing.T) {
	r := source(154)
	taken := 0
	for range 200000 {
		x := rawOf(someLabel(r))
		x.store = [8]byte(someBytes(r, 8))
		x.k, x.m, x.index = byte(r.Intn(256)), byte(r.Intn(64)), byte(r.Intn(256))
		x.block, x.epoch = r.Uint32()>>r.Intn(32), r.Uint64()>>r.Intn(64)
		b := x.bytes()
		l, err := label.Parse(b)
		if err != api.OK {
			continue
		}
		again, err := label.Encode(l)
		fatalUnless(t, bytes.Equal(again, b) && err == api.OK, "%v is %v again, %d", b, again, err)
		taken++
	}
	fatalUnless(t, taken > 5000, "only %d were taken", taken)
}

// checkTurned is P15.6 of one label's bytes and one pattern.
func checkTurned(t *testing.T, form, pattern []byte) api.Errno {
	t.Helper()
	b := make([]byte, 31)
	for i := range b {
		b[i] = form[i] ^ pattern[i]
	}
	l, err := label.Parse(b)
	if !crc.Blind(pattern) && (l != api.Label{} || err != api.ErrLabel) {
		t.Fatalf("%v with the pattern %v: Parse = %v, %d", form, pattern, l, err)
	}
	return err
}

// turn turns a bit of a pattern, in layer 6's order.
func turn(pattern []byte, bit int) { pattern[bit/8] ^= 1 << (bit % 8) }

// P15.6: every one, every two and every three bits.
func TestFewBitsTurned(t *testing.T) {
	all := 8 * 31
	for i, l := range edgeLabels() {
		form, pattern := formOf(l), make([]byte, 31)
		wantTurned := func() {
			if checkTurned(t, form, pattern) == api.OK {
				t.Fatalf("%v with the pattern %v is a label", form, pattern)
			}
		}
		for a := range all {
			turn(pattern, a)
			wantTurned()
			for b := range a {
				turn(pattern, b)
				wantTurned()
				if i == 0 && !testing.Short() {
					for c := range b {
						turn(pattern, c)
						wantTurned()
						turn(pattern, c)
					}
				}
				turn(pattern, b)
			}
			turn(pattern, a)
		}
	}
}

// P15.6: bits within 32 that follow one another, from each bit on.
func TestBitsWithin32Turned(t *testing.T) {
	r := source(155)
	for _, l := range edgeLabels() {
		form := formOf(l)
		for at := range 8*31 - 31 {
			for _, ones := range []uint32{1, 3, 0xff, 0x80000001, 0xffffffff, 0x82f63b78, r.Uint32() | 1, r.Uint32()&r.Uint32() | 1<<31, 1<<31 | r.Uint32() | 1} {
				pattern := make([]byte, 31)
				for i := range 32 {
					if ones>>i&1 == 1 {
						turn(pattern, at+i)
					}
				}
				wantNumber(t, "Parse", checkTurned(t, form, pattern), api.ErrLabel)
			}
		}
	}
}

// P15.6: an odd number of bits, anywhere.
func TestOddBitsTurned(t *testing.T) {
	r := source(156)
	for range 100000 {
		pattern := someBytes(r, 31)
		ones := 0
		for _, x := range pattern {
			ones += bits.OnesCount8(x)
		}
		if ones%2 == 0 {
			turn(pattern, r.Intn(8*31))
		}
		wantNumber(t, "Parse", checkTurned(t, formOf(someLabel(r)), pattern), api.ErrLabel)
	}
}

// blind is a pattern that changes the first 27 bytes so, and the sum as they ask for.
func blind(first []byte) []byte {
	zeros := make([]byte, 27)
	return binary.LittleEndian.AppendUint32(slices.Clone(first), sum(first)^sum(zeros))
}

// P15.6: of any pattern, blind or not; of blind ones the sum is right, so that the fields alone say whether it is a label.
func TestAnyPattern(t *testing.T) {
	r := source(157)
	met := map[string]int{}
	for range 100000 {
		form := formOf(someLabel(r))
		first := make([]byte, 27)
		for range r.Intn(4) {
			first[pick(r, r.Intn(27), 4+r.Intn(8), 14+r.Intn(13))] ^= byte(r.Intn(256))
		}
		pattern := blind(first)
		if r.Intn(3) == 0 {
			turn(pattern, r.Intn(8*31))
		}
		err := checkTurned(t, form, pattern)
		is := crc.Blind(pattern)
		for i := range form {
			form[i] ^= pattern[i]
		}
		_, want := parsed(form)
		wantNumber(t, "Parse", err, want)
		met[fmt.Sprintf("blind %v: %d", is, err)]++
		checkTurned(t, form, someBytes(r, 31))
	}
	for _, what := range []string{"blind true: 0", "blind true: 150", "blind false: 150"} {
		fatalUnless(t, met[what] > 5000, "%s: %d times, of %v", what, met[what], met)
	}
	fatalUnless(t, len(met) == 3, "%v", met)
}

// P15.6: harm that a drive does to its label.
func TestHarmedLabels(t *testing.T) {
	for n := range 31 {
		d := drive.New(100)
		wantNumber(t, "Write", label.Write(d, plain()), api.OK)
		wantNumber(t, "Flip", d.Flip("l", n, []byte{16}), api.OK)
		wantRead(t, d, api.Label{}, api.ErrLabel)
		wantNumber(t, "Flip", d.Flip("l", n, []byte{16}), api.OK)
		wantRead(t, d, plain(), api.OK)
		wantNumber(t, "Cut", d.Cut("l", n), api.OK)
		wantRead(t, d, api.Label{}, api.ErrLabel)
		wantNumber(t, "Write", label.Write(d, plain()), api.OK)
		wantRead(t, d, plain(), api.OK)
		wantNumber(t, "Wipe", d.Wipe(), api.OK)
		wantRead(t, d, api.Label{}, api.ErrMissing)
	}
}

// someDeed is any of all there are; each label has an epoch of its own.
func someDeed(r *rand.Rand, epoch int) deed {
	switch r.Intn(22) {
	case 0, 1, 2, 3, 4, 5, 6:
		l := someLabel(r)
		l.Epoch = epoch
		return write(l)
	case 7, 8:
		return beside(pick(r, "o61", "o62", "L", "ll"), someBytes(r, r.Intn(40)))
	case 9:
		return litter(pick(r, nil, someBytes(r, 3), formOf(someLabel(r)), formOf(plain())))
	case 10:
		return sweep()
	case 11, 12, 13:
		return refuse(r.Intn(8), pick(r, api.FaultIO, api.FaultIO, api.FaultFull))
	case 14:
		return burn(r.Intn(7), pick(r, -1, 0, 1, 27, 30, 31, 99))
	case 15:
		return offline(r.Intn(3) == 0)
	case 16:
		return power(r.Intn(3) != 0)
	case 17, 18:
		return read()
	}
	return lose(someFate(r))
}

// P15.7: long runs of labels one behind the other, refused and broken off anywhere, with losses of power and any fates, beside other files.
func TestLongRuns(t *testing.T) {
	r := source(158)
	seen := map[string]int{}
	for range 5000 {
		w := newWorld(pick(r, 31, 61, 62, 100, 1000))
		w.check(t)
		for i := range 50 {
			w.play(t, someDeed(r, i))
		}
		for what, n := range w.seen {
			seen[what] += n
		}
	}
	for _, what := range []string{
		"missing", "the last one", "one behind it", "lost", "Write 0", "Write 111", "Write 120", "Write 121", "Write 122",
		"Read 0", "Read 110", "Read 120", "Read 121", "Read 122", "beside 0", "beside 120", "Sweep 0", "Sweep 120",
	} {
		fatalUnless(t, seen[what] > 100, "%s: %d times, of %v", what, seen[what], slices.Sorted(maps.Keys(seen)))
	}
}

// epochs is the label of the examples with that Epoch.
func epochs(n int) api.Label { return with(func(l *api.Label) { l.Epoch = n }) }

// refusals are a Write with none of its calls refused, and with each of them.
func refusals(l api.Label) [][]deed {
	runs := [][]deed{{write(l)}}
	for at := range 5 {
		runs = append(runs, []deed{refuse(at, api.FaultIO), write(l)})
	}
	return runs
}

// everyLoss plays the run, and behind it each loss of power there is, on a world of its own each time; then the label is read, and written anew.
func everyLoss(t *testing.T, run ...deed) {
	t.Helper()
	first := newWorld(200)
	first.play(t, run...)
	for _, f := range fates(first.Pending()) {
		w := newWorld(200)
		for _, d := range run {
			w.behind = append(w.behind, d)
			d.do(t, w)
		}
		w.play(t, lose(f), read())
		w.Arm(nil)
		w.play(t, write(epochs(99)), lose(api.Fate{}))
		fatalUnless(t, w.wrote && w.last == epochs(99), "%v is the last one; behind %v", w.last, w.behind)
	}
}

// P15.7: every run of three Writes, each refused at each of its calls, and every loss of power behind it.
func TestEveryShortRun(t *testing.T) {
	for _, a := range refusals(epochs(1)) {
		everyLoss(t, a...)
		for _, b := range refusals(epochs(2)) {
			everyLoss(t, slices.Concat(a, b)...)
			for _, c := range refusals(epochs(3)) {
				everyLoss(t, slices.Concat(a, b, c)...)
			}
		}
	}
}

// P15.7: the power goes ahead of each call, in the midst of the label at each of its bytes, behind whatever was refused before it.
func TestPowerGoesAnywhere(t *testing.T) {
	for _, a := range refusals(epochs(1)) {
		for call := range 6 {
			for inside := range 33 {
				everyLoss(t, burn(call, inside), write(epochs(1)))
				everyLoss(t, slices.Concat(a, []deed{burn(call, inside), write(epochs(2))})...)
			}
		}
	}
}

// P15.7: as the power goes ahead of each call of a Write: the old label until its Rename, then by the fate one or the other, and the new one alone when it has answered OK.
func TestOldOrNew(t *testing.T) {
	for call := range 6 {
		for inside := range 33 {
			met := map[int]int{}
			for _, f := range fates(2) {
				w := newWorld(62)
				w.play(t, write(epochs(1)), burn(call, inside), write(epochs(2)), lose(f))
				l, err := label.Read(w)
				fatalUnless(t, err == api.OK, "Read = %v, %d behind %v", l, err, w.behind)
				met[l.Epoch]++
			}
			want := map[int]int{1: 12}
			switch call {
			case 4:
				want = map[int]int{1: 6, 2: 6}
			case 5:
				want = map[int]int{2: 12}
			}
			fatalUnless(t, maps.Equal(met, want), "the power goes ahead of the call %d: %v, not %v", call, met, want)
		}
	}
}

// P15.7: a label whose Write was refused in its last call is seen, and may be lost; the next Write that is answered OK stands alone.
func TestRefusedAtItsEnd(t *testing.T) {
	for _, f := range fates(2) {
		w := newWorld(100)
		w.play(t, write(epochs(1)), refuse(4, api.FaultIO), write(epochs(2)), read())
		wantRead(t, w, epochs(2), api.OK)
		w.play(t, lose(f))
		l, err := label.Read(w)
		fatalUnless(t, err == api.OK && (l == epochs(1) || l == epochs(2)), "Read = %v, %d", l, err)
		w.play(t, write(epochs(3)), lose(f))
		wantRead(t, w, epochs(3), api.OK)
	}
}

// P15.7: what was acknowledged is told until the next Write: through faults, losses of power, and whatever is written beside it.
func TestWrittenStays(t *testing.T) {
	r := source(159)
	for range 300 {
		w := newWorld(100000)
		l := someLabel(r)
		w.play(t, write(l))
		for range 40 {
			w.play(t, pick(r,
				beside("o61", someBytes(r, 9)), litter(formOf(plain())), sweep(), read(), lose(someFate(r)), refuse(r.Intn(6), api.FaultIO),
				burn(r.Intn(6), r.Intn(9)), offline(r.Intn(2) == 0), power(r.Intn(2) == 0),
			))
			wantRead(t, w.Drive, l, api.OK)
		}
		w.Arm(nil)
		w.play(t, burn(-1, 0), offline(false), lose(someFate(r)))
		wantRead(t, w, l, api.OK)
	}
}

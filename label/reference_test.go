package label_test

import (
	"bytes"
	"encoding/binary"
	"fmt"
	"hash/crc32"
	"math/big"
	"math/rand"
	"slices"
	"testing"

	"cairn/api"
	"cairn/atomic"
	"cairn/drive"
	"cairn/label"
	"cairn/wound"
)

var _ api.Disk = (*spy)(nil)

func fatalUnless(t *testing.T, is bool, says string, args ...any) {
	t.Helper()
	if !is {
		t.Fatalf(says, args...)
	}
}

// spy is a drive that writes down what it is asked, and answers as it was told to.
type spy struct {
	answers []api.Errno       // of its calls, one behind the other; OK behind the last of them
	files   map[string][]byte // what Read tells of a name, beside whatever number
	asked   []string
}

func (s *spy) ask(says string, args ...any) api.Errno {
	i := len(s.asked)
	s.asked = append(s.asked, fmt.Sprintf(says, args...))
	if i < len(s.answers) {
		return s.answers[i]
	}
	return 0
}

func (s *spy) Create(name string) api.Errno              { return s.ask("Create %q", name) }
func (s *spy) Append(name string, data []byte) api.Errno { return s.ask("Append %q %v", name, data) }
func (s *spy) Sync(name string) api.Errno                { return s.ask("Sync %q", name) }
func (s *spy) Rename(old, to string) api.Errno           { return s.ask("Rename %q %q", old, to) }
func (s *spy) Remove(name string) api.Errno              { return s.ask("Remove %q", name) }
func (s *spy) SyncDir() api.Errno                        { return s.ask("SyncDir") }
func (s *spy) Read(name string) ([]byte, api.Errno)      { return s.files[name], s.ask("Read %q", name) }
func (s *spy) List() ([]string, api.Errno)               { return []string{"l"}, s.ask("List") }
func (s *spy) Struck() bool                              { return s.ask("Struck") != 0 }
func (s *spy) Rest(off bool)                             { s.ask("Rest %v", off) }

// plain is the label L of the chapter's examples.
func plain() api.Label {
	return api.Label{Store: [8]byte{1, 2, 3, 4, 5, 6, 7, 8}, Shape: api.Shape{K: 2, M: 1, Block: 4}, Index: 2, Epoch: 258}
}

// with is the label of the examples, changed.
func with(change func(l *api.Label)) api.Label {
	l := plain()
	change(&l)
	return l
}

// Each condition of a label that may be, in the page's and the chapter's words, reckoned without bounds.

func whole(n int) *big.Int { return big.NewInt(int64(n)) }

func from(least, n, greatest *big.Int) bool { return least.Cmp(n) <= 0 && n.Cmp(greatest) <= 0 }

func isShape(s api.Shape) bool {
	n := new(big.Int).Add(whole(s.K), whole(s.M))
	return from(whole(1), whole(s.M), whole(s.K)) && from(n, n, whole(255)) && from(whole(1), whole(s.Block), whole(65536))
}

// faultOf is the error of P15.1.
func faultOf(l api.Label) api.Errno {
	if !isShape(l.Shape) {
		return 4
	}
	if !from(whole(0), whole(l.Index), whole(l.Shape.K+l.Shape.M-1)) {
		return 2
	}
	most := new(big.Int).Sub(new(big.Int).Lsh(whole(1), 32), whole(1))
	if !from(whole(0), whole(l.Epoch), most) {
		return 2
	}
	return 0
}

// sum is the CRC-32C of bytes, by the library.
func sum(b []byte) uint32 { return crc32.Checksum(b, crc32.MakeTable(crc32.Castagnoli)) }

// raw is what a label's bytes say, whether it may be or not.
type raw struct {
	mark        [4]byte
	store       [8]byte
	k, m, index byte
	block       uint32
	epoch       uint64
}

// rawOf is a label whose numbers have room in their bytes.
func rawOf(l api.Label) raw {
	return raw{[4]byte{67, 82, 78, 1}, l.Store, byte(l.Shape.K), byte(l.Shape.M), byte(l.Index), uint32(l.Shape.Block), uint64(l.Epoch)}
}

// bytes are the raw label's bytes by the chapter's table, with their right sum.
func (x raw) bytes() []byte {
	b := slices.Concat(x.mark[:], x.store[:], []byte{x.k, x.m})
	b = binary.LittleEndian.AppendUint32(b, x.block)
	b = append(b, x.index)
	b = binary.LittleEndian.AppendUint64(b, x.epoch)
	return summed(b)
}

// summed is the bytes, and behind them their sum.
func summed(b []byte) []byte {
	return binary.LittleEndian.AppendUint32(slices.Clone(b), sum(b))
}

// formOf is the bytes of a label.
func formOf(l api.Label) []byte { return rawOf(l).bytes() }

// parsed is Parse in the chapter's words: the bytes are those of some label that may be, or they are none's.
func parsed(b []byte) (api.Label, api.Errno) {
	if len(b) != 31 {
		return api.Label{}, 150
	}
	epoch := binary.LittleEndian.Uint64(b[19:])
	if epoch >= 1<<32 {
		return api.Label{}, 150
	}
	l := api.Label{
		Store: [8]byte(b[4:12]),
		Shape: api.Shape{K: int(b[12]), M: int(b[13]), Block: int(binary.LittleEndian.Uint32(b[14:]))},
		Index: int(b[18]),
		Epoch: int(epoch),
	}
	if faultOf(l) != 0 || !bytes.Equal(formOf(l), b) {
		return api.Label{}, 150
	}
	return l, 0
}

// checkParse holds Parse of the bytes against the chapter's words. It answers Parse's number.
func checkParse(t *testing.T, b []byte) api.Errno {
	t.Helper()
	l, err := label.Parse(b)
	wantLabel, want := parsed(b)
	if l != wantLabel || err != want {
		t.Fatalf("Parse(%v) = %v, %d, not %v, %d", b, l, err, wantLabel, want)
	}
	return err
}

// checkEncode holds Encode of the label against the chapter's words. It answers Encode's number.
func checkEncode(t *testing.T, l api.Label) api.Errno {
	t.Helper()
	b, err := label.Encode(l)
	want := faultOf(l)
	if want != 0 {
		if len(b) != 0 || err != want {
			t.Fatalf("Encode(%v) = %v, %d, not %d", l, b, err, want)
		}
		return err
	}
	if err != 0 || !bytes.Equal(b, formOf(l)) {
		t.Fatalf("Encode(%v) = %v, %d, not %v", l, b, err, formOf(l))
	}
	return err
}

// wordsOfWrite is P15.4 and P13.1: what a drive of these answers is asked, and what comes of it.
func wordsOfWrite(l api.Label, answers []api.Errno) (asked []string, err api.Errno) {
	if err := faultOf(l); err != 0 {
		return nil, err
	}
	for i, call := range []string{`Create "t"`, fmt.Sprintf(`Append "t" %v`, formOf(l)), `Sync "t"`, `Rename "t" "l"`, `SyncDir`} {
		asked = append(asked, call)
		if answers[i] != 0 {
			return asked, answers[i]
		}
	}
	return asked, 0
}

func wantNumber(t *testing.T, says string, got, want api.Errno) {
	t.Helper()
	fatalUnless(t, got == want, "%s = %d, not %d", says, got, want)
}

func wantRead(t *testing.T, d api.Disk, want api.Label, number api.Errno) {
	t.Helper()
	l, err := label.Read(d)
	fatalUnless(t, l == want && err == number, "Read = %v, %d, not %v, %d", l, err, want, number)
}

func wantAsked(t *testing.T, s *spy, want []string) {
	t.Helper()
	fatalUnless(t, slices.Equal(s.asked, want), "with the answers %v the drive was asked %q, not %q", s.answers, s.asked, want)
}

func source(seed int64) *rand.Rand { return rand.New(rand.NewSource(seed)) }

// pick is one of the list.
func pick[E any](r *rand.Rand, l ...E) E { return l[r.Intn(len(l))] }

func someBytes(r *rand.Rand, n int) []byte {
	b := make([]byte, n)
	r.Read(b)
	return b
}

// someLabel is any that may be, its numbers often at their limits.
func someLabel(r *rand.Rand) api.Label {
	k := pick(r, 1, 2, 127, 128, 254, 1+r.Intn(254))
	most := min(k, 255-k)
	m := pick(r, 1, most, 1+r.Intn(most))
	return api.Label{
		Store: [8]byte(someBytes(r, 8)),
		Shape: api.Shape{K: k, M: m, Block: pick(r, 1, 255, 256, 65535, 65536, 1+r.Intn(65536))},
		Index: pick(r, 0, k+m-1, r.Intn(k+m)),
		Epoch: pick(r, 0, 1, 1<<16, 1<<31, 1<<32-1, r.Intn(1<<32)),
	}
}

// edgeLabels are the examples' label, and such as have one thing at its limit, or all of them.
func edgeLabels() []api.Label {
	return []api.Label{
		plain(),
		with(func(l *api.Label) { l.Store = [8]byte{} }),
		with(func(l *api.Label) { l.Store = [8]byte{255, 254, 253, 252, 251, 250, 249, 248} }),
		with(func(l *api.Label) { l.Index = 0 }),
		with(func(l *api.Label) { l.Epoch = 0 }),
		with(func(l *api.Label) { l.Epoch = 1 }),
		with(func(l *api.Label) { l.Epoch = 0x04030201 }),
		with(func(l *api.Label) { l.Epoch = api.MaxEpoch - 1 }),
		with(func(l *api.Label) { l.Epoch = api.MaxEpoch }),
		with(func(l *api.Label) { l.Shape.Block = 1 }),
		with(func(l *api.Label) { l.Shape.Block = 0x0201 }),
		with(func(l *api.Label) { l.Shape.Block = api.MaxBlock }),
		with(func(l *api.Label) { l.Shape.M = 2; l.Index = 3 }),
		with(func(l *api.Label) { l.Shape = api.Shape{K: 1, M: 1, Block: 1}; l.Index = 1 }),
		with(func(l *api.Label) { l.Shape = api.Shape{K: 254, M: 1, Block: 7}; l.Index = 254 }),
		with(func(l *api.Label) { l.Shape = api.Shape{K: 128, M: 127, Block: 7}; l.Index = 254 }),
		{Shape: api.Shape{K: 1, M: 1, Block: 1}},
		{Store: [8]byte(bytes.Repeat([]byte{255}, 8)), Shape: api.Shape{K: 128, M: 127, Block: api.MaxBlock}, Index: 254, Epoch: api.MaxEpoch},
	}
}

// world is a wound over a drive that began empty, onto which labels are written; and what P15.7 says of what Read may tell.
type world struct {
	*wound.Wound
	wrote  bool        // a Write answered OK
	last   api.Label   // of the last one that did
	since  []api.Label // of the Writes behind that one
	now    string      // what the drive itself shows of its label behind a loss of power, until the next Write
	behind []deed
	seen   map[string]int // how often what happened, so that a test can ask whether enough did
}

func newWorld(room int) *world {
	return &world{Wound: wound.New(drive.New(room)), now: shown(api.Label{}, api.ErrMissing), seen: map[string]int{}}
}

func shown(l api.Label, err api.Errno) string { return fmt.Sprint(l, " ", int(err)) }

// check holds what Read tells of the drive itself, which refuses nothing, against P15.7.
func (w *world) check(t *testing.T) {
	t.Helper()
	l, err := label.Read(w.Drive)
	what := "torn"
	switch {
	case err == api.ErrMissing && l == api.Label{}:
		what = "missing"
		fatalUnless(t, !w.wrote, "Read = %v, %d, though %v was written; behind %v", l, err, w.last, w.behind)
	case err == api.OK && w.wrote && l == w.last:
		what = "the last one"
	case err == api.OK && slices.Contains(w.since, l):
		what = "one behind it"
	}
	fatalUnless(t, what != "torn", "Read = %v, %d, and may be %v, %v; behind %v", l, err, w.last, w.since, w.behind)
	fatalUnless(t, !w.wrote || len(w.since) > 0 || l == w.last, "Read = %v, %d, not %v; behind %v", l, err, w.last, w.behind)
	fatalUnless(t, w.now == "" || w.now == shown(l, err), "Read = %v, %d, and was %s; behind %v", l, err, w.now, w.behind)
	w.seen[what]++
}

// deed is a call of the chapter, or what strikes its drive.
type deed struct {
	says string
	do   func(t *testing.T, w *world)
}

func (d deed) String() string { return "(" + d.says + ")" }

// play makes the deeds, and looks behind each of them whether the promise holds.
func (w *world) play(t *testing.T, deeds ...deed) {
	t.Helper()
	for _, d := range deeds {
		w.behind = append(w.behind, d)
		d.do(t, w)
		w.check(t)
	}
}

func write(l api.Label) deed {
	return deed{fmt.Sprintf("Write %v", l), func(t *testing.T, w *world) {
		t.Helper()
		err := label.Write(w, l)
		if err == api.OK {
			w.wrote, w.last, w.since = true, l, nil
		} else {
			w.since = append(w.since, l)
		}
		w.now = ""
		w.seen[fmt.Sprintf("Write %d", err)]++
	}}
}

// read is Read of the wound itself: it is refused, or as the drive alone has it.
func read() deed {
	return deed{"Read", func(t *testing.T, w *world) {
		t.Helper()
		l, err := label.Read(w)
		if slices.Contains([]api.Errno{api.ErrIO, api.ErrOffline, api.ErrDown}, err) {
			fatalUnless(t, l == api.Label{}, "Read = %v, %d; behind %v", l, err, w.behind)
		} else {
			must := shown(label.Read(w.Drive))
			fatalUnless(t, shown(l, err) == must, "Read = %v, %d, not %s; behind %v", l, err, must, w.behind)
		}
		w.seen[fmt.Sprintf("Read %d", err)]++
	}}
}

// beside writes another file, which has the temporary file for a while as a label has.
func beside(name string, data []byte) deed {
	return deed{fmt.Sprintf("beside %q %v", name, data), func(t *testing.T, w *world) {
		t.Helper()
		w.seen[fmt.Sprintf("beside %d", atomic.Write(w, name, data))]++
	}}
}

// litter leaves bytes in the temporary file.
func litter(data []byte) deed {
	return still(func(w *world) { w.Drive.Create("t"); w.Drive.Append("t", data) }, "litter %v", data)
}

func sweep() deed {
	return deed{"Sweep", func(t *testing.T, w *world) {
		t.Helper()
		_, err := atomic.Sweep(w)
		w.seen[fmt.Sprintf("Sweep %d", err)]++
	}}
}

// lose is a loss of power with that fate, and the power's return.
func lose(f api.Fate) deed {
	return deed{fmt.Sprintf("lose %v", f), func(t *testing.T, w *world) {
		t.Helper()
		w.Rest(true)
		was := shown(label.Read(w.Drive))
		w.Crash(f)
		w.Power(true)
		w.check(t)
		w.now = shown(label.Read(w.Drive))
		if w.now != was {
			w.seen["lost"]++
		}
	}}
}

// still is what strikes the drive and answers nothing.
func still(do func(w *world), says string, args ...any) deed {
	return deed{fmt.Sprintf(says, args...), func(_ *testing.T, w *world) { do(w) }}
}

// refuse makes the call of this number from now on a refused one.
func refuse(at, kind int) deed {
	return still(func(w *world) { w.Arm([]api.Fault{{At: at, Kind: kind}}) }, "refuse %d %d", at, kind)
}

// burn lets the power go ahead of the call of this number from now on.
func burn(call, inside int) deed {
	return still(func(w *world) { w.Rest(false); w.Fuse(0, call, inside) }, "burn %d %d", call, inside)
}

func offline(off bool) deed {
	return still(func(w *world) { w.Offline(off) }, "offline %v", off)
}

// power brings the power back, or takes it, while nothing is lost.
func power(on bool) deed {
	return still(func(w *world) { w.Power(on) }, "power %v", on)
}

// fates are all there are for so many changes of names, with some cuts of bytes.
func fates(pending int) []api.Fate {
	var all []api.Fate
	for kept := range 1 << pending {
		dirs := make([]bool, pending)
		for i := range dirs {
			dirs[i] = kept>>i&1 == 1
		}
		for _, cut := range []int{0, 20, 99} {
			all = append(all, api.Fate{Dirs: dirs, Cuts: slices.Repeat([]int{cut}, 9)})
		}
	}
	return all
}

func someFate(r *rand.Rand) api.Fate {
	f := api.Fate{Dirs: make([]bool, r.Intn(12)), Cuts: make([]int, r.Intn(6))}
	for i := range f.Dirs {
		f.Dirs[i] = r.Intn(2) == 0
	}
	for i := range f.Cuts {
		f.Cuts[i] = pick(r, 0, 1, 27, 30, 31, 99, -1)
	}
	return f
}

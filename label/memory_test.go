package label_test

import (
	"bytes"
	"fmt"
	"slices"
	"strings"
	"sync"
	"testing"
	"time"

	"cairn/api"
	"cairn/drive"
	"cairn/label"
	"cairn/wound"
)

// overwrite puts a byte everywhere into a list, and into the room behind it.
func overwrite(l []byte, with byte) {
	l = l[:cap(l)]
	for i := range l {
		l[i] = with
	}
}

// roomy is a copy of bytes with some room behind them, and these with the room.
func roomy(b, behind []byte) (list, all []byte) {
	all = slices.Concat(b, behind)
	return all[:len(b)], all
}

// greedy is a drive that keeps the bytes that it is handed and that it told, with the room behind them, and overwrites them whenever it is called.
type greedy struct {
	spy
	kept [][]byte
}

func (g *greedy) spoil() {
	for _, b := range g.kept {
		overwrite(b, 'Z')
	}
}

func (g *greedy) Append(name string, data []byte) api.Errno {
	err := g.spy.Append(name, data)
	g.kept = append(g.kept, data)
	g.spoil()
	return err
}

func (g *greedy) SyncDir() api.Errno {
	g.spoil()
	return g.spy.SyncDir()
}

func (g *greedy) Read(name string) ([]byte, api.Errno) {
	g.spoil()
	b := bytes.Clone(g.files[name])
	g.kept = append(g.kept, b)
	return b, 0
}

// P15.8: bytes that are read stay as they were, and the room behind them; and that is not read.
func TestBytesHandedInStayAsTheyWere(t *testing.T) {
	for _, l := range edgeLabels() {
		form := formOf(l)
		spoilt := slices.Clone(form)
		spoilt[13] ^= 8
		for _, whole := range [][]byte{form, spoilt, summed(form), make([]byte, 40)} {
			for n := range len(whole) + 1 {
				b, all := roomy(whole[:n], slices.Concat(whole[n:], []byte{201, 202, 203}))
				was := slices.Clone(all)
				checkParse(t, b)
				fatalUnless(t, bytes.Equal(all, was), "Parse makes of %v %v", was, all)
			}
		}
	}
}

// P15.8: a label that was answered is not touched by what becomes of the bytes.
func TestParsedLabelsAreTheirOwn(t *testing.T) {
	for _, l := range edgeLabels() {
		b := formOf(l)
		got, err := label.Parse(b)
		overwrite(b, 'Z')
		fatalUnless(t, got == l && err == api.OK, "Parse = %v, %d, not %v", got, err, l)
	}
}

// P15.8: each answer of Encode is new memory, with the room behind it.
func TestFormsShareNoMemory(t *testing.T) {
	for _, l := range edgeLabels() {
		first, _ := label.Encode(l)
		second, _ := label.Encode(l)
		overwrite(first, 'Z')
		third, _ := label.Encode(l)
		fatalUnless(t, bytes.Equal(second, formOf(l)) && bytes.Equal(third, formOf(l)), "another answer became %v, %v", second, third)
		back, err := label.Parse(second)
		fatalUnless(t, back == l && err == api.OK, "Parse = %v, %d", back, err)
	}
}

// P15.8: what a drive tells is neither changed nor kept.
func TestWhatADriveTellsIsItsOwn(t *testing.T) {
	form, all := roomy(formOf(plain()), []byte{7, 7, 7})
	was := slices.Clone(all)
	d := &spy{files: map[string][]byte{"l": form}}
	l, err := label.Read(d)
	fatalUnless(t, bytes.Equal(all, was), "the drive's own became %v", all)
	overwrite(form, 'Z')
	fatalUnless(t, l == plain() && err == api.OK, "Read = %v, %d", l, err)
	wantRead(t, d, api.Label{}, api.ErrLabel)
}

// P15.8: a drive that overwrites all it was handed and all it told changes no later answer.
func TestGreedyDrives(t *testing.T) {
	for _, l := range edgeLabels() {
		g := &greedy{spy: spy{files: map[string][]byte{"l": formOf(l)}}}
		for range 3 {
			asked, _ := wordsOfWrite(l, make([]api.Errno, 5))
			g.asked = nil
			wantNumber(t, "Write", label.Write(g, l), api.OK)
			wantAsked(t, &g.spy, asked)
			wantRead(t, g, l, api.OK)
			g.spoil()
			wantNumber(t, "Encode", checkEncode(t, l), api.OK)
		}
	}
}

// With an error every other result is zero.
func TestNothingBesideAnError(t *testing.T) {
	for _, err := range numbers[1:] {
		wantRead(t, &spy{answers: []api.Errno{err}, files: map[string][]byte{"l": formOf(plain())}}, api.Label{}, err)
	}
	for _, f := range flaws() {
		b, err := label.Encode(with(f.make))
		fatalUnless(t, len(b) == 0 && err == f.want, "Encode with %s = %v, %d", f.name, b, err)
	}
}

// someCalls are calls of all four of a drive that is refused at times, and all they answered.
func someCalls(seed int64) string {
	r := source(seed)
	w := wound.New(drive.New(pick(r, 61, 62, 1000)))
	var text strings.Builder
	for range 80 {
		w.Arm([]api.Fault{{At: r.Intn(9), Kind: api.FaultIO}})
		l := someLabel(r)
		l.Index -= r.Intn(2)
		b, err := label.Encode(l)
		fmt.Fprintln(&text, b, err)
		back, err := label.Parse(b)
		fmt.Fprintln(&text, back, err, label.Write(w, l))
		got, err := label.Read(w)
		fmt.Fprintln(&text, got, err, w.Calls(), w.Image(), w.Safe())
	}
	return text.String()
}

// Nothing is kept from call to call: drives that are worked on beside one another come out as each by itself.
func TestDrivesBesideOneAnother(t *testing.T) {
	const many = 20
	var alone, beside [many]string
	for i := range many {
		alone[i] = someCalls(int64(i))
	}
	var group sync.WaitGroup
	for i := range many {
		group.Go(func() { beside[i] = someCalls(int64(i)) })
	}
	group.Wait()
	fatalUnless(t, alone == beside, "drives hang on one another")
}

// W0: calls of much end, and in a short time.
func TestMuchEnds(t *testing.T) {
	begin := time.Now()
	much := make([]byte, 256<<20)
	copy(much, formOf(plain()))
	for range 100 {
		l, err := label.Parse(much)
		fatalUnless(t, l == api.Label{} && err == api.ErrLabel, "Parse = %v, %d", l, err)
	}
	d := drive.Load(api.MaxRoom, []api.File{{Name: "l", Data: much}})
	wantRead(t, d, api.Label{}, api.ErrLabel)
	wantNumber(t, "Write", label.Write(d, plain()), api.OK)
	wantRead(t, d, plain(), api.OK)
	fatalUnless(t, time.Since(begin) < 30*time.Second, "it took %v", time.Since(begin))
}

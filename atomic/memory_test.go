package atomic_test

import (
	"bytes"
	"fmt"
	"slices"
	"sync"
	"testing"
	"time"

	"cairn/api"
	"cairn/atomic"
	"cairn/drive"
	"cairn/wound"
)

// greedy is a drive that keeps the bytes that it is handed, and the room behind them, and overwrites them.
type greedy struct {
	spy
	kept [][]byte
}

func (g *greedy) Append(name string, data []byte) api.Errno {
	err := g.spy.Append(name, data)
	g.kept = append(g.kept, data)
	g.spoil()
	return err
}

func (g *greedy) SyncDir() api.Errno {
	g.spoil()
	return g.spy.SyncDir()
}

// spoil overwrites all that was kept.
func (g *greedy) spoil() {
	for _, b := range g.kept {
		b = b[:cap(b)]
		for i := range b {
			b[i] = 'Z'
		}
	}
}

// P13.1, the page: what is handed in is not changed, the room behind it neither, whatever the drive does to what it is given.
func TestBytesAreNotChanged(t *testing.T) {
	for _, n := range []int{0, 1, 2, 31, 32, 33, 1000} {
		all := bytes.Repeat([]byte("ab"), 700)
		was := bytes.Clone(all)
		for _, d := range []api.Disk{drive.New(5000), wound.New(drive.New(5000)), drive.New(10), &spy{answers: []api.Errno{0, 7}}, &greedy{}} {
			atomic.Write(d, "f", all[:n])
			fatalUnless(t, bytes.Equal(all, was), "a Write of %d bytes to %T makes of them, and those behind them, %q", n, d, all)
		}
		g := &greedy{}
		atomic.Write(g, "f", all[:n])
		g.spoil()
		fatalUnless(t, bytes.Equal(all, was), "what a drive keeps of a Write of %d bytes is the caller's", n)
	}
}

// P13.1, the page: what is handed in is not kept: the caller's later changes say nothing, nor does what stands behind the bytes.
func TestBytesAreNotKept(t *testing.T) {
	for _, n := range []int{0, 1, 2, 100} {
		w := wound.New(drive.New(5000))
		all := bytes.Repeat([]byte("xyz"), 100)
		want := string(all[:n])
		wantNumber(t, "Write", atomic.Write(w, "f", all[:n]), api.OK)
		clear(all)
		wantRead(t, w, "f", want)
		w.Crash(api.Fate{})
		wantRead(t, w, "f", want)
	}
}

// P13.3: what a drive tells stays as it is.
func TestNamesAreNotChanged(t *testing.T) {
	all := []string{"z", "t", "a", "t", "b", "behind"}
	was := slices.Clone(all)
	wantSweep(t, &spy{names: all[:5]}, 1, api.OK)
	wantSweep(t, &spy{names: all[:1]}, 0, api.OK)
	fatalUnless(t, slices.Equal(all, was), "the drive's names became %q", all)
}

// someCalls are calls of all three of a drive that is refused at times, and all they answered.
func someCalls(seed int64) string {
	r := source(seed)
	w := wound.New(someDrive(seed))
	text := ""
	for range 60 {
		arm(w, r.Intn(12), api.FaultIO)
		name := pick(r, "f", "g", "t", "")
		n, err := 0, api.OK
		switch r.Intn(4) {
		case 0, 1:
			err = atomic.Write(w, name, []byte(someText(r, r.Intn(9))))
		case 2:
			err = atomic.Remove(w, name)
		case 3:
			n, err = atomic.Sweep(w)
		}
		text += fmt.Sprintln(n, err, w.Calls(), w.Image(), w.Safe())
	}
	return text
}

// Nothing is kept from call to call: drives that are worked on beside one another come out as each by itself.
func TestDrivesBesideOneAnother(t *testing.T) {
	const many = 20
	var alone, beside [many]string
	for i := range many {
		alone[i] = someCalls(int64(i))
	}
	var group sync.WaitGroup
	for i := range many {
		group.Go(func() { beside[i] = someCalls(int64(i)) })
	}
	group.Wait()
	fatalUnless(t, alone == beside, "drives hang on one another")
}

// W0: calls of much end, and in a short time.
func TestMuchEnds(t *testing.T) {
	begin := time.Now()
	d := drive.New(api.MaxRoom)
	data := make([]byte, 64<<20)
	wantNumber(t, "Write", atomic.Write(d, "f", data), api.OK)
	wantNumber(t, "Write", atomic.Write(drive.New(len(data)-1), "f", data), api.ErrFull)
	fatalUnless(t, d.Used() == len(data), "Used = %d", d.Used())
	names := slices.Repeat([]string{"n"}, 1<<21)
	wantSweep(t, &spy{names: names}, 0, api.OK)
	wantSweep(t, &spy{names: append(names, "t")}, 1, api.OK)
	fatalUnless(t, time.Since(begin) < 30*time.Second, "it took %v", time.Since(begin))
}

package fan_test

import (
	"fmt"
	"runtime"
	"slices"
	"strings"
	"sync"
	"sync/atomic"
	"testing"
	"time"

	"cairn/api"
	"cairn/drive"
	"cairn/fan"
	"cairn/wound"
)

// long is how long a test waits for what must come.
const long = 30 * time.Second

func wantEach[T comparable](t *testing.T, l []T, err api.Errno, want ...T) {
	t.Helper()
	fatalUnless(t, slices.Equal(l, want) && err == api.OK, "Each = %v, %d, not %v", l, err, want)
}

func wantRefused[T any](t *testing.T, l []T, err, want api.Errno) {
	t.Helper()
	fatalUnless(t, len(l) == 0 && err == want, "Each = %v, %d, not none, %d", l, err, want)
}

// The chapter's examples, row by row.
func TestExamples(t *testing.T) {
	job := func(i int, d api.Disk) int { return 10 + i }
	one := drive.New(10)
	l, err := fan.Each(nil, nil, job, 5)
	wantEach(t, l, err)
	l, err = fan.Each([]api.Disk{nil, one, nil}, nil, job, 5)
	wantEach(t, l, err, 5, 11, 5)
	l, err = fan.Each([]api.Disk{one}, fan.Done(true), job, 5)
	wantRefused(t, l, err, api.ErrStopped)
	l, err = fan.Each([]api.Disk{one}, fan.Done(true), nil, 5)
	wantRefused(t, l, err, api.ErrNil)

	w := []*wound.Wound{wound.New(drive.New(10)), wound.New(drive.New(10)), wound.New(drive.New(10))}
	w[1].Fuse(0, 1, 0)
	two := func(i int, d api.Disk) api.Errno { d.Create("a"); return d.Create("b") }
	e, err := fan.Each([]api.Disk{w[0], w[1], w[2]}, nil, two, api.ErrIO)
	wantEach(t, e, err, api.OK, api.ErrDown, api.OK)
	for i := range w {
		names, _ := w[i].Drive.List()
		fatalUnless(t, !w[i].On() && len(names) == []int{2, 1, 2}[i], "at the place %d the power is on: %v, there are %q", i, w[i].On(), names)
	}

	fatalUnless(t, fan.Count([]int{1, 2, 1}, 1) == 2, "Count(1 2 1, 1) = %d", fan.Count([]int{1, 2, 1}, 1))
	fatalUnless(t, fan.Count(nil, 1) == 0, "Count(none, 1) = %d", fan.Count(nil, 1))
	x, n := fan.Most([]int{2, 1, 1, 2})
	fatalUnless(t, x == 2 && n == 2, "Most(2 1 1 2) = %d, %d", x, n)
	x, n = fan.Most[int](nil)
	fatalUnless(t, x == 0 && n == 0, "Most(none) = %d, %d", x, n)
}

// P16.1: one is closed, each time it is asked; from the other nothing comes, not later either.
func TestDone(t *testing.T) {
	stopped := fan.Done(true)
	for range 3 {
		select {
		case _, sent := <-stopped:
			fatalUnless(t, !sent, "something comes from Done(true)")
		default:
			t.Fatal("Done(true) is not closed")
		}
	}
	going := fan.Done(false)
	select {
	case <-going:
		t.Fatal("something comes from Done(false)")
	case <-time.After(50 * time.Millisecond):
	}
	select {
	case <-fan.Done(true):
	default:
		t.Fatal("a second Done(true) is not closed")
	}
}

// P16.2: every choice of up to five places that have drives, and of those that are struck: each job once, with its own place and drive; then the round's end in its order, and no other call.
func TestEveryRound(t *testing.T) {
	for n := range 6 {
		for _, there := range subsets(n) {
			for _, struck := range subsets(n) {
				checkRound(t, there, struck)
			}
		}
	}
}

// P16.2: rounds of as many places as there may be, and of more.
func TestLongRounds(t *testing.T) {
	r := source(161)
	for _, n := range []int{20, 254, 255, 256, 1000} {
		for range 20 {
			there, struck := make([]bool, n), make([]bool, n)
			some := r.Intn(n + 1)
			for i := range n {
				there[i], struck[i] = r.Intn(n) < some, r.Intn(n) == 0
			}
			checkRound(t, there, struck)
		}
	}
}

// checkRound holds a round of these drives against the words of P16.2.
func checkRound(t *testing.T, there, struck []bool) {
	t.Helper()
	book := &diary{}
	disks := spies(book, there, struck)
	job := func(i int, d api.Disk) int {
		book.add("begun %d of %d", i, d.(*spy).name)
		book.add("ended %d", i)
		return 1000 + i
	}
	l, err := fan.Each(disks, nil, job, -7)
	var want []int
	jobs := 0
	for i := range there {
		if there[i] {
			jobs++
			want = append(want, 1000+i)
			begun := fmt.Sprintf("begun %d of %d", i, i)
			fatalUnless(t, slices.Index(book.lines, begun) >= 0, "%v, %v: no job at %d: %q", there, struck, i, book.lines)
		} else {
			want = append(want, -7)
		}
	}
	wantEach(t, l, err, want...)
	end := wordsOfEnd(there, struck)
	fatalUnless(t, len(book.lines) == 2*jobs+len(end) && slices.Equal(book.lines[2*jobs:], end), "%v, %v: the round goes %q, and should end %q", there, struck, book.lines, end)
}

// P16.2: the drives are asked whether they are struck only when the last job has ended, whichever that is.
func TestEndComesBehindAllJobs(t *testing.T) {
	const n = 6
	for late := range n {
		book := &diary{}
		disks := allThere(book, n)
		var others sync.WaitGroup
		others.Add(n - 1)
		l, err := fan.Each(disks, nil, func(i int, d api.Disk) int {
			if i == late {
				others.Wait()
				time.Sleep(10 * time.Millisecond)
				d.SyncDir()
			} else {
				d.SyncDir()
				others.Done()
			}
			return i
		}, -1)
		wantEach(t, l, err, 0, 1, 2, 3, 4, 5)
		end := wordsOfEnd(slices.Repeat([]bool{true}, n), make([]bool, n))
		fatalUnless(t, len(book.lines) == 3*n && book.lines[n-1] == fmt.Sprint("SyncDir ", late) && slices.Equal(book.lines[n:], end), "the round goes %q", book.lines)
	}
}

// P16.2: all jobs are under way at one time: none ends ahead of the last one's beginning.
func TestJobsMeet(t *testing.T) {
	for _, n := range []int{1, 2, 3, 8, 255, 1000} {
		var come atomic.Int64
		all := make(chan struct{})
		l, err := fan.Each(allThere(&diary{}, n), nil, func(i int, d api.Disk) bool {
			if come.Add(1) == int64(n) {
				close(all)
			}
			return comes(all)
		}, false)
		fatalUnless(t, err == api.OK && len(l) == n && !slices.Contains(l, false), "of %d jobs some wait in vain: %v, %d", n, l, err)
	}
}

// The chapter's beginning: each job is done in a goroutine of its own, the caller's is none of them.
func TestGoroutinesOfTheirOwn(t *testing.T) {
	const n = 9
	l, err := fan.Each(allThere(&diary{}, n), nil, func(int, api.Disk) string { return goroutine() }, "")
	fatalUnless(t, err == api.OK && len(l) == n, "Each = %q, %d", l, err)
	l = append(l, goroutine())
	for i, x := range l {
		fatalUnless(t, slices.Index(l, x) == i, "two jobs, or a job and the caller, are done in %s", x)
	}
}

// goroutine is the name that Go gives the goroutine that asks.
func goroutine() string {
	stack := make([]byte, 100)
	name, _, _ := strings.Cut(string(stack[:runtime.Stack(stack, false)]), " [")
	return name
}

// comes waits for the channel.
func comes(c <-chan struct{}) bool {
	select {
	case <-c:
		return true
	case <-time.After(long):
		return false
	}
}

// P16.2: a job may wait for what any other one does, at a later place or an earlier one, and there may be no drives between.
func TestJobsWaitForOneAnother(t *testing.T) {
	const n = 40
	r := source(162)
	for range 30 {
		disks := allThere(&diary{}, n)
		order := r.Perm(n) // the jobs end in this order, one waiting for the other
		before := make([]int, n)
		done := make([]chan struct{}, n)
		for k, i := range order {
			done[i] = make(chan struct{})
			before[i] = -1
			if k > 0 {
				before[i] = order[k-1]
			}
		}
		var ended []int
		l, err := fan.Each(disks, nil, func(i int, d api.Disk) bool {
			defer close(done[i])
			met := before[i] < 0 || comes(done[before[i]])
			ended = append(ended, i)
			return met
		}, false)
		fatalUnless(t, err == api.OK && !slices.Contains(l, false) && slices.Equal(ended, order), "in the order %v: %v, %d, they end in the order %v", order, l, err, ended)
	}
}

// P16.2: without a job nothing is done, whatever else is handed in; done is not looked at.
func TestNoJob(t *testing.T) {
	held := make(chan struct{}, 1)
	held <- struct{}{}
	for _, done := range []<-chan struct{}{nil, make(chan struct{}), fan.Done(true), fan.Done(false), held} {
		book := &diary{}
		for _, disks := range [][]api.Disk{nil, {}, {nil}, allThere(book, 3)} {
			l, err := fan.Each[int](disks, done, nil, 5)
			wantRefused(t, l, err, api.ErrNil)
		}
		fatalUnless(t, book.lines == nil, "without a job a drive is called: %q", book.lines)
	}
	sent := waiting(t)
	_, err := fan.Each[string](allThere(&diary{}, 2), sent, nil, "")
	_, comes := <-sent
	fatalUnless(t, err == api.ErrNil && comes && len(held) == 1, "without a job Each = %d receives from done", err)
}

// waiting is a channel without room on which somebody waits to send, once.
func waiting(t *testing.T) <-chan struct{} {
	t.Helper()
	c := make(chan struct{})
	go func() {
		c <- struct{}{}
		close(c)
	}()
	untilWaiting(t, "[chan send]", 1)
	return c
}

// untilWaiting goes on when so many goroutines wait for what Go calls so.
func untilWaiting(t *testing.T, what string, n int) {
	t.Helper()
	stacks := make([]byte, 1<<20)
	for begin := time.Now(); ; time.Sleep(time.Millisecond) {
		if strings.Count(string(stacks[:runtime.Stack(stacks, true)]), what) >= n {
			return
		}
		fatalUnless(t, time.Since(begin) < long, "nobody waits for %s", what)
	}
}

// P16.2: of a done channel that can be received from, in whatever way, neither the job nor a drive is called.
func TestStopped(t *testing.T) {
	closed := make(chan struct{}, 2)
	closed <- struct{}{}
	close(closed)
	empty := make(chan struct{}, 2)
	close(empty)
	half, full := make(chan struct{}, 2), make(chan struct{}, 1)
	half <- struct{}{}
	full <- struct{}{}
	for i, done := range []<-chan struct{}{fan.Done(true), closed, empty, half, full, waiting(t)} {
		book := &diary{}
		job := func(i int, d api.Disk) string { book.add("job %d", i); return "job" }
		l, err := fan.Each(spies(book, []bool{true, false, true}, make([]bool, 3)), done, job, "silent")
		wantRefused(t, l, err, api.ErrStopped)
		fatalUnless(t, book.lines == nil, "the channel %d: stopped, and yet %q", i, book.lines)
	}
	for _, disks := range [][]api.Disk{nil, {nil, nil}} {
		l, err := fan.Each(disks, fan.Done(true), func(int, api.Disk) int { return 1 }, 2)
		wantRefused(t, l, err, api.ErrStopped)
	}
}

// P16.2: of one that can't be received from the round goes on.
func TestNotStopped(t *testing.T) {
	spent := make(chan struct{}, 1)
	spent <- struct{}{}
	<-spent
	for _, done := range []<-chan struct{}{nil, fan.Done(false), make(chan struct{}), make(chan struct{}, 3), spent} {
		l, err := fan.Each([]api.Disk{nil, drive.New(1)}, done, func(i int, d api.Disk) int { return i }, -1)
		wantEach(t, l, err, -1, 1)
	}
}

// P16.2: it is looked once, ahead of the jobs: what is closed or sent in the midst of the round does not end it, and is there for the next one.
func TestStoppedInTheMidst(t *testing.T) {
	for _, n := range []int{1, 2, 9} {
		stops := []func(done chan struct{}){func(done chan struct{}) { close(done) }, func(done chan struct{}) { done <- struct{}{} }}
		for _, stop := range stops {
			book := &diary{}
			disks := allThere(book, n)
			done := make(chan struct{}, 1)
			job := func(i int, d api.Disk) int {
				if i == n-1 {
					stop(done)
				} else {
					time.Sleep(5 * time.Millisecond)
				}
				return i
			}
			l, err := fan.Each(disks, done, job, -1)
			var want []int
			for i := range n {
				want = append(want, i)
			}
			wantEach(t, l, err, want...)
			fatalUnless(t, len(book.lines) == 2*n, "the round goes %q", book.lines)
			l, err = fan.Each(disks, done, job, -1)
			wantRefused(t, l, err, api.ErrStopped)
			fatalUnless(t, len(book.lines) == 2*n, "the stopped round goes %q", book.lines)
		}
	}
}

// P16.2: answers of any kind are laid as they are, a zero one and that of the silent too.
func TestAnswersOfAnyKind(t *testing.T) {
	disks := []api.Disk{drive.New(1), nil, drive.New(1)}
	texts, err := fan.Each(disks, nil, func(i int, d api.Disk) string { return fmt.Sprint(i) }, "none")
	wantEach(t, texts, err, "0", "none", "2")
	nothing, err := fan.Each(disks, nil, func(i int, d api.Disk) struct{} { return struct{}{} }, struct{}{})
	wantEach(t, nothing, err, struct{}{}, struct{}{}, struct{}{})
	errs, err := fan.Each(disks, nil, func(i int, d api.Disk) error {
		if i == 0 {
			return nil
		}
		return d.Sync("x")
	}, error(api.ErrOffline))
	wantEach(t, errs, err, nil, error(api.ErrOffline), error(api.ErrMissing))
	seen, err := fan.Each(disks, nil, func(i int, d api.Disk) api.Seen {
		return api.Seen{Kind: i, Shard: api.Shard{Blocks: [][]byte{{byte(i)}}}}
	}, api.Seen{Kind: api.SeenSilent})
	fatalUnless(t, err == api.OK && fmt.Sprint(seen) == fmt.Sprint([]api.Seen{{Shard: api.Shard{Blocks: [][]byte{{0}}}}, {Kind: 4}, {Kind: 2, Shard: api.Shard{Blocks: [][]byte{{2}}}}}), "Each = %v, %d", seen, err)
	drives, err := fan.Each(disks, nil, func(i int, d api.Disk) api.Disk { return d }, nil)
	wantEach(t, drives, err, disks...)
	calls, err := fan.Each(disks, nil, func(i int, d api.Disk) func() int { return func() int { return i } }, nil)
	fatalUnless(t, err == api.OK && len(calls) == 3 && calls[0]() == 0 && calls[1] == nil && calls[2]() == 2, "Each of functions, %d", err)
}

// P16.2, W0: a nil *Wound or *Drive in an interface is not nil to Go: its job is done, and it answers as layers 11 and 12 say.
func TestDrivesThatHoldNothing(t *testing.T) {
	disks := []api.Disk{(*wound.Wound)(nil), (*drive.Drive)(nil), nil, &wound.Wound{}}
	l, err := fan.Each(disks, nil, func(i int, d api.Disk) api.Errno { return d.Sync("a") }, api.ErrIO)
	wantEach(t, l, err, api.ErrNil, api.ErrNil, api.ErrIO, api.ErrNil)
}

// P16.2: a drive's round ends with Rest, so that a fuse counts its rounds by those that were held, not by those that were refused.
func TestFuseCountsRounds(t *testing.T) {
	for rounds := range 5 {
		w, other := wound.New(drive.New(10)), wound.New(drive.New(10))
		disks := []api.Disk{other, w}
		w.Fuse(rounds, 0, 0)
		job := func(i int, d api.Disk) api.Errno { return d.SyncDir() }
		for range rounds {
			l, err := fan.Each(disks, nil, job, api.ErrIO)
			wantEach(t, l, err, api.OK, api.OK)
			fatalUnless(t, w.On() && other.On(), "the power is off ahead of its round")
			fan.Each(disks, fan.Done(true), job, api.ErrIO)
			fan.Each(disks, nil, nil, api.ErrIO)
		}
		l, err := fan.Each(disks, nil, job, api.ErrIO)
		wantEach(t, l, err, api.OK, api.ErrDown)
		fatalUnless(t, !w.On() && !other.On(), "the power is on behind its round")
		l, err = fan.Each(disks, nil, job, api.ErrIO)
		wantEach(t, l, err, api.ErrDown, api.ErrDown)
	}
}

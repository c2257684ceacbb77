package fan_test

import (
	"fmt"
	"runtime"
	"slices"
	"sync"
	"testing"
	"time"

	"cairn/api"
	"cairn/drive"
	"cairn/fan"
)

// The page: the list of drives is not changed, nor the room behind it.
func TestDrivesAreNotChanged(t *testing.T) {
	all := allThere(&diary{}, 9)
	all[2] = nil
	was := slices.Clone(all)
	for n := range len(all) {
		for _, done := range []<-chan struct{}{nil, fan.Done(true)} {
			fan.Each(all[:n], done, func(i int, d api.Disk) api.Disk { return nil }, was[0])
			fatalUnless(t, slices.Equal(all, was), "a round of %d makes of the drives %v", n, all)
		}
	}
}

// P16.2: the round is one of the drives that were handed in: a job that turns the caller's list turns no round.
func TestJobsTurnTheList(t *testing.T) {
	const n = 9
	for _, with := range []api.Disk{nil, drive.New(1)} {
		book := &diary{}
		disks := allThere(book, n)
		disks[4] = nil
		there := slices.Repeat([]bool{true}, n)
		there[4] = false
		var lock sync.Mutex
		l, err := fan.Each(disks, nil, func(i int, d api.Disk) int {
			lock.Lock()
			defer lock.Unlock()
			for k := range disks {
				disks[k] = with
			}
			return d.(*spy).name
		}, -1)
		wantEach(t, l, err, 0, 1, 2, 3, -1, 5, 6, 7, 8)
		end := wordsOfEnd(there, make([]bool, n))
		fatalUnless(t, slices.Equal(book.lines, end), "the round goes %q, not %q", book.lines, end)
	}
}

// The page: what a done channel holds is there still; from one at which somebody waits at most one thing is received.
func TestDoneIsNotChanged(t *testing.T) {
	for n := range 4 {
		done := make(chan struct{}, 4)
		for range n {
			done <- struct{}{}
		}
		for range 3 {
			_, err := fan.Each(allThere(&diary{}, 2), done, func(i int, d api.Disk) int { return i }, -1)
			fatalUnless(t, (err == api.ErrStopped) == (n > 0) && len(done) == n, "done held %d: Each = %d, it holds %d", n, err, len(done))
		}
	}
	done := make(chan struct{})
	stop := make(chan struct{})
	var senders sync.WaitGroup
	sent := make(chan int, 2)
	for range 2 {
		senders.Go(func() {
			select {
			case done <- struct{}{}:
				sent <- 1
			case <-stop:
				sent <- 0
			}
		})
	}
	untilWaiting(t, "[select]", 2)
	_, err := fan.Each(nil, done, func(i int, d api.Disk) int { return i }, -1)
	close(stop)
	senders.Wait()
	got := <-sent + <-sent
	fatalUnless(t, err == api.ErrStopped && got == 1, "Each = %d receives %d times", err, got)
}

// The page: an answer is new memory, spare room too: it shares none with another one.
func TestAnswersAreNewMemory(t *testing.T) {
	disks := allThere(&diary{}, 5)
	disks[3] = nil
	job := func(i int, d api.Disk) api.Disk { return d }
	var answers [][]api.Disk
	for range 4 {
		l, err := fan.Each(disks, nil, job, nil)
		wantEach(t, l, err, disks...)
		for _, earlier := range answers {
			fatalUnless(t, !slices.Contains(earlier[:cap(earlier)], disks[0]), "two answers share memory")
		}
		l = l[:cap(l)]
		clear(l)
		fatalUnless(t, disks[0] != nil && disks[4] != nil, "an answer is the list of drives")
		answers = append(answers, l)
	}
}

// The page: the lists that are counted are not changed, nor the room behind them; what stands there is not counted.
func TestListsAreNotChanged(t *testing.T) {
	r := source(168)
	for range 500 {
		all := some(r.Intn, 20, 1, 2, 3)
		was := slices.Clone(all)
		n := r.Intn(20)
		plainCounts(t, all[:n], 1, 2, 3)
		plainCounts(t, slices.Clone(all[:n]), 1, 2, 3)
		fatalUnless(t, slices.Equal(all, was), "the list %v became %v", was, all)
	}
}

// P16.2: when a round answers, its goroutines have ended, or have nothing left to do but to end.
func TestGoroutinesEnd(t *testing.T) {
	before := runtime.NumGoroutine()
	disks := allThere(&diary{}, 100)
	job := func(i int, d api.Disk) int { return i }
	for range 100 {
		fan.Each(disks, nil, job, -1)
		fan.Each(disks, make(chan struct{}), job, -1)
		fan.Each(disks, fan.Done(true), job, -1)
		fan.Each(disks, nil, nil, -1)
		fan.Done(true)
		fan.Done(false)
	}
	for begin := time.Now(); runtime.NumGoroutine() > before; {
		fatalUnless(t, time.Since(begin) < long, "%d goroutines are left, of %d", runtime.NumGoroutine(), before)
		time.Sleep(time.Millisecond)
	}
}

// A goroutine ends with its job: it does not wait for the answers of the places ahead of it.
func TestGoroutinesDoNotWait(t *testing.T) {
	const n = 50
	before := runtime.NumGoroutine()
	l, err := fan.Each(allThere(&diary{}, n), nil, func(i int, d api.Disk) bool {
		if i > 0 {
			return true
		}
		for begin := time.Now(); runtime.NumGoroutine() > before+1; time.Sleep(time.Millisecond) {
			if time.Since(begin) > long {
				return false
			}
		}
		return true
	}, false)
	wantEach(t, l, err, slices.Repeat([]bool{true}, n)...)
}

// Nothing is kept from round to round: rounds beside one another come out as each by itself.
func TestRoundsBesideOneAnother(t *testing.T) {
	const many = 20
	some := func(seed int64) string {
		r := source(seed)
		seeds := make([]int64, 8)
		for i := range seeds {
			seeds[i] = r.Int63()
		}
		w := newWard(seeds)
		text := ""
		for range 20 {
			for _, x := range w.wounds {
				if blow := r.Int63(); x != nil {
					strike(x, blow)
				}
			}
			l, err := fan.Each(w.disks, fan.Done(r.Intn(5) == 0), func(i int, d api.Disk) string { return treat(d, seed+int64(i)) }, "silent")
			x, n := fan.Most(l)
			text += fmt.Sprintln(l, err, x, n)
		}
		return text
	}
	var alone, beside [many]string
	for i := range many {
		alone[i] = some(int64(i))
	}
	var group sync.WaitGroup
	for i := range many {
		group.Go(func() { beside[i] = some(int64(i)) })
	}
	group.Wait()
	fatalUnless(t, alone == beside, "rounds hang on one another")
}

// A round within a round: a job may hold one of its own.
func TestRoundsWithinRounds(t *testing.T) {
	job := func(i int, d api.Disk) int { return i }
	l, err := fan.Each(allThere(&diary{}, 6), nil, func(i int, d api.Disk) int {
		inner, _ := fan.Each(allThere(&diary{}, i), nil, job, -1)
		return len(inner)
	}, -1)
	wantEach(t, l, err, 0, 1, 2, 3, 4, 5)
}

// W0: calls of much end, and in a short time.
func TestMuchEnds(t *testing.T) {
	begin := time.Now()
	l, err := fan.Each(allThere(&diary{}, 100000), nil, func(i int, d api.Disk) int { return i }, -1)
	fatalUnless(t, err == api.OK && len(l) == 100000 && l[99999] == 99999, "Each of many drives, %d", err)
	l, err = fan.Each(make([]api.Disk, 1<<22), nil, func(i int, d api.Disk) int { return i }, -1)
	fatalUnless(t, err == api.OK && fan.Count(l, -1) == 1<<22, "Each of many places, %d", err)
	for i := range l {
		l[i] = i
	}
	x, n := fan.Most(l)
	fatalUnless(t, x == 0 && n == 1, "Most of many = %d, %d", x, n)
	l = append(l, 1<<21)
	x, n = fan.Most(l)
	fatalUnless(t, x == 1<<21 && n == 2, "Most of many = %d, %d", x, n)
	fatalUnless(t, time.Since(begin) < 2*long, "it took %v", time.Since(begin))
}

package atomic_test

import (
	"fmt"
	"maps"
	"slices"
	"strings"
	"testing"

	"cairn/api"
	"cairn/drive"
)

// someDrive is one that is full at times, empty at times, with a temporary file at times.
func someDrive(seed int64) *drive.Drive {
	r := source(seed)
	var files []api.File
	for _, name := range []string{"f", "g", "t"} {
		if r.Intn(3) > 0 {
			files = append(files, api.File{Name: name, Data: []byte(someText(r, r.Intn(9)))})
		}
	}
	return drive.Load(pick(r, 20, 40, 100, 1000), files)
}

// P13.4 to P13.6: long runs of all calls, refused and broken off anywhere, with losses of power and any fates.
func TestLongRuns(t *testing.T) {
	r := source(131)
	seen := map[string]int{}
	pools := [][]string{{"f"}, {"f", "g"}, {"f", "g", "h"}, {"f", "T", "tt", "\x00", "\xff", "l", strings.Repeat("t", 1024)}}
	for range 6000 {
		names := pick(r, pools...)
		w := newWorld(someDrive(r.Int63()))
		w.check(t)
		for range 50 {
			w.play(t, someDeed(r, names))
		}
		for what, n := range w.seen {
			seen[what] += n
		}
	}
	for _, what := range []string{
		"Write 0 renamed true", "Write 120 renamed false", "Write 120 renamed true", "Write 111 renamed false", "Write 121 renamed false", "Write 122 renamed false", "Write 122 renamed true",
		"Remove 0 there false", "Remove 120 there true", "Remove 120 there false", "Remove 122 there true",
		"Sweep 0 0", "Sweep 1 0", "Sweep 0 120", "Sweep 0 121", "Sweep 0 122", "lost", "temporary file kept",
	} {
		fatalUnless(t, seen[what] > 100, "%s: %d times, of %v", what, seen[what], slices.Sorted(maps.Keys(seen)))
	}
}

// refusals are the call with none of its calls refused, and with each of the first so many.
func refusals(call deed, calls int) [][]deed {
	runs := [][]deed{{call}}
	for at := range calls {
		runs = append(runs, []deed{refuse(at, api.FaultIO), call})
	}
	return runs
}

// everyRefusal are the calls, each with each of its refusals, of the world that beginning makes.
func everyRefusal() [][]deed {
	return slices.Concat(
		refusals(write("f", "new"), 5), refusals(write("f", ""), 5), refusals(write("g", "12"), 5),
		refusals(remove("f"), 2), refusals(sweep(), 3),
	)
}

func beginning() *world {
	return newWorld(drive.Load(100, []api.File{{Name: "f", Data: []byte("old")}}))
}

// everyLoss plays the run, and behind it each loss of power there is, on a world of its own each time; then a Sweep, and a loss of power again.
func everyLoss(t *testing.T, run []deed) {
	t.Helper()
	first := beginning()
	first.play(t, run...)
	for _, f := range fates(first.Pending()) {
		w := beginning()
		w.play(t, run...)
		w.play(t, lose(f))
		was := w.besides()
		w.Arm(nil)
		w.play(t, sweep(), lose(api.Fate{}))
		fatalUnless(t, w.swept && w.besides() == was && w.has("t") == "none", "a Sweep makes of %s %v; behind %v", was, w.Image(), w.behind)
	}
}

// P13.4 to P13.6: every run of two calls and some of three, each refused at each of its calls, and every loss of power behind it.
func TestEveryShortRun(t *testing.T) {
	kinds := everyRefusal()
	for i, a := range kinds {
		everyLoss(t, a)
		for j, b := range kinds {
			everyLoss(t, slices.Concat(a, b))
			for k, c := range kinds {
				if (i+j+k)%7 == 0 && !testing.Short() {
					everyLoss(t, slices.Concat(a, b, c))
				}
			}
		}
	}
}

// P13.4: the power goes ahead of each call, in the midst of each Append, behind whatever was refused before it.
func TestPowerGoesAnywhere(t *testing.T) {
	for _, a := range everyRefusal() {
		for call := range 6 {
			for inside := range 5 {
				for _, b := range []deed{write("f", "next"), write("h", "5"), remove("f"), sweep()} {
					everyLoss(t, slices.Concat(a, []deed{burn(call, inside), b}))
				}
			}
		}
	}
}

// P13.1, P13.4: what a Write comes to, as the power goes ahead of each of its calls: the old bytes until its Rename, then by the fate one or the other, and the new ones alone when it has answered OK.
func TestOldOrNew(t *testing.T) {
	for call := range 6 {
		for inside := range 5 {
			met := map[string]int{}
			for _, f := range fates(2) {
				w := beginning()
				w.play(t, burn(call, inside), write("f", "new"))
				answer := api.ErrDown
				if call == 5 {
					answer = api.OK
				}
				what := fmt.Sprintf("Write %d renamed %v", answer, call >= 4)
				fatalUnless(t, w.seen[what] == 1, "the power goes ahead of the call %d: %v", call, w.seen)
				w.play(t, lose(f))
				met[w.has("f")]++
			}
			want := map[string]int{`"old"`: 12}
			switch call {
			case 4:
				want = map[string]int{`"old"`: 6, `"new"`: 6}
			case 5:
				want = map[string]int{`"new"`: 12}
			}
			fatalUnless(t, maps.Equal(met, want), "the power goes ahead of the call %d: %v, not %v", call, met, want)
		}
	}
}

// P13.2, P13.4: what a Remove comes to, as the power goes ahead of each of its calls.
func TestThereOrGone(t *testing.T) {
	for call, want := range []map[string]int{{`"old"`: 12}, {`"old"`: 6, "none": 6}, {"none": 12}} {
		met := map[string]int{}
		for _, f := range fates(2) {
			w := beginning()
			w.play(t, burn(call, 0), remove("f"), lose(f))
			met[w.has("f")]++
		}
		fatalUnless(t, maps.Equal(met, want), "the power goes ahead of the call %d: %v, not %v", call, met, want)
	}
}

// P13.4: what was refused in its SyncDir is made safe by the next call whose SyncDir is answered OK, whatever that call is of.
func TestLaterCallsMakeItSafe(t *testing.T) {
	for _, next := range []deed{write("g", "1"), remove("g"), sweep()} {
		for _, f := range fates(2) {
			w := beginning()
			w.play(t, refuse(4, api.FaultIO), write("f", "new"), next, lose(f))
			fatalUnless(t, w.has("f") == `"new"`, "f has %s; behind %v", w.has("f"), w.behind)
		}
	}
}

// P13.6: once swept, the temporary file stays away through losses of power, Removes and Sweeps, refused ones too, until the next Write calls the drive.
func TestSweptStaysSwept(t *testing.T) {
	r := source(132)
	for range 3000 {
		w := newWorld(someDrive(r.Int63()))
		for range r.Intn(6) {
			w.play(t, someDeed(r, []string{"f", "g"}))
		}
		w.Arm(nil)
		w.play(t, burn(-1, 0), offline(false), power(true), sweep())
		fatalUnless(t, w.swept, "Sweep is refused; behind %v", w.behind)
		for range 12 {
			w.play(t, pick(r, remove("f"), remove("g"), sweep(), lose(someFate(r)), refuse(r.Intn(4), api.FaultIO), burn(r.Intn(4), 0)))
			fatalUnless(t, w.swept && w.has("t") == "none", "the temporary file is there; behind %v", w.behind)
		}
	}
}

package wound_test

import (
	"fmt"
	"math"
	"math/rand"
	"slices"
	"strings"
	"sync"
	"testing"

	"cairn/api"
	"cairn/drive"
	"cairn/wound"
)

var pools = [][]string{{"a"}, {"a", "b"}, {"a", "b", "c", ""}, {"a", "aa", "\x00", "\xff", "b", strings.Repeat("x", 1025)}}

// someDrive is one of a room that is filled at times; the same for one seed.
func someDrive(seed int64) *drive.Drive {
	r := source(seed)
	var files []api.File
	for _, name := range []string{"a", "b"} {
		if r.Intn(3) > 0 {
			files = append(files, api.File{Name: name, Data: []byte(someText(r, r.Intn(9)))})
		}
	}
	return drive.Load(pick(r, 0, 5, 20, 60, 1000), files)
}

// P12.2 to P12.7: long runs of all calls against the chapter's words, with all that can be told behind each of them.
func TestLongRuns(t *testing.T) {
	r := source(121)
	for range 2500 {
		seed, names := r.Int63(), pick(r, pools...)
		w, m := wound.New(someDrive(seed)), newModel(someDrive(seed))
		var behind []step
		sameState(t, w, m, behind)
		for range 60 {
			s := someStep(r, names)
			sameAnswer(t, w, m, s, behind)
			behind = append(behind, s)
			sameState(t, w, m, behind)
		}
	}
}

// P12.2 to P12.6: every short run of some steps against the chapter's words.
func TestEveryShortRun(t *testing.T) {
	steps := []step{
		appendTo("a", "xyz"), create("b"), read("a"),
		arm(fault(0, 2), fault(1, 1)), arm(), offline(true), offline(false),
		fuse(0, 1, 2), fuse(1, 0, 1), fuse(-1, 0, 0), rest(false), rest(true), power(true), power(false),
	}
	most := 5
	if testing.Short() {
		most = 4
	}
	var run []step
	var tell func()
	tell = func() {
		w, m := wound.New(loaded()), newModel(loaded())
		for i, s := range run {
			sameAnswer(t, w, m, s, run[:i])
		}
		sameState(t, w, m, run)
		if len(run) == most {
			return
		}
		for _, s := range steps {
			run = append(run, s)
			tell()
			run = run[:len(run)-1]
		}
	}
	tell()
}

// P12.9: a wound to which nothing was done is as its drive alone.
func TestUnhurtIsTheDrive(t *testing.T) {
	r := source(122)
	for range 1500 {
		seed, names := r.Int63(), pick(r, pools...)
		w, d := wound.New(someDrive(seed)), someDrive(seed)
		var behind []step
		count := 0
		for range 60 {
			s := pick(r, someCall(r, names), someCall(r, names), someCall(r, names), struck(), rest(false))
			sameAnswer(t, w, d, s, behind)
			behind = append(behind, s)
			fatalUnless(t, stateOf(w) == stateOf(d), "it came to %s, not %s; behind %v", stateOf(w), stateOf(d), behind)
			if s.says != "Struck" && !strings.HasPrefix(s.says, "Rest") {
				count++
			}
			fatalUnless(t, w.On() && w.Calls() == count, "On %v, Calls %d; behind %v", w.On(), w.Calls(), behind)
		}
	}
}

// numberOf is the error's number in a step's answer.
func numberOf(answer string) string {
	return answer[strings.LastIndex(answer, " ")+1:]
}

// isCall tells whether the step is a call of the drive.
func isCall(s step) bool {
	return slices.Contains([]string{"Create", "Append", "Sync", "Rename", "Remove", "SyncDir", "Read", "List"}, strings.Fields(s.says)[0])
}

// P12.10, P12.11: a refused call changes nothing but for the bytes of an Append that a fuse lets pass; without power there is ErrDown alone, with power only at a fuse, and ErrOffline only offline.
func TestRefusedCalls(t *testing.T) {
	r := source(123)
	seen := map[string]int{}
	for range 3000 {
		names := pick(r, pools...)
		w := wound.New(someDrive(r.Int63()))
		line := false
		for range 60 {
			s := someStep(r, names)
			wasOn, wasStruck, before, count := w.On(), w.Struck(), stateOf(w), w.Calls()
			answer := s.do(w)
			if strings.HasPrefix(s.says, "Offline") {
				line = s.says == "Offline true"
			}
			if !isCall(s) {
				continue
			}
			err := numberOf(answer)
			seen[err]++
			burnt := wasOn && !w.On()
			fatalUnless(t, err == "0" || stateOf(w) == before || burnt && strings.HasPrefix(s.says, "Append"), "%v = %s changes %s to %s", s, answer, before, stateOf(w))
			fatalUnless(t, wasOn || err == "122" && !w.On(), "%v without power = %s", s, answer)
			fatalUnless(t, !wasOn || (err == "122") == burnt, "%v with power = %s, On %v", s, answer, w.On())
			fatalUnless(t, !burnt || wasStruck && w.Struck(), "%v = %s without a fuse", s, answer)
			fatalUnless(t, !wasOn || (err == "121") == line, "%v = %s, offline %v", s, answer, line)
			counted := 0
			if wasOn && !line {
				counted = 1
			}
			fatalUnless(t, w.Calls() == count+counted, "%v = %s counts %d", s, answer, w.Calls()-count)
			fatalUnless(t, err == "0" || !strings.Contains(answer, " ") || slices.Contains([]string{`""`, "[]"}, strings.Fields(answer)[0]), "%v = %s", s, answer)
		}
	}
	for _, err := range []string{"0", "91", "110", "111", "120", "121", "122"} {
		fatalUnless(t, seen[err] > 100, "%s was answered %d times", err, seen[err])
	}
}

// appending is an Append's arguments.
type appending struct {
	name, data string
}

// someRound are calls of the drive, and for each Append its arguments.
func someRound(r *rand.Rand, names []string) (round []step, puts map[int]appending) {
	puts = map[int]appending{}
	for i := range 1 + r.Intn(9) {
		s := someCall(r, names)
		if r.Intn(2) == 0 {
			a := appending{pick(r, names...), someText(r, r.Intn(9))}
			puts[i], s = a, appendTo(a.name, a.data)
		} else if strings.HasPrefix(s.says, "Append") {
			s = syncFile(names[0])
		}
		round = append(round, s)
	}
	return round, puts
}

// P12.10: a round in which the power goes ahead of the call c leaves the drive as the first c calls do, and an Append's first bytes.
func TestRoundsInWhichThePowerGoes(t *testing.T) {
	r := source(124)
	for range 1500 {
		seed, names := r.Int63(), pick(r, pools...)
		round, puts := someRound(r, names)
		for c := range len(round) + 1 {
			for _, inside := range []int{-1, 0, 1, 2, r.Intn(9), 99, math.MaxInt, math.MinInt} {
				w, d := wound.New(someDrive(seed)), someDrive(seed)
				rounds := r.Intn(3)
				w.Fuse(rounds, c, inside)
				for range rounds {
					sameAnswer(t, w, d, list(), nil)
					w.Rest(false)
				}
				for i, s := range round {
					if i < c {
						sameAnswer(t, w, d, s, round[:i])
					} else {
						play(t, w, []step{s}, refused(s, 122))
					}
				}
				if a, is := puts[c]; is && inside > 0 {
					d.Append(a.name, []byte(a.data[:min(inside, len(a.data))]))
				}
				fatalUnless(t, w.Struck() && w.On() == (c == len(round)), "Struck %v, On %v", w.Struck(), w.On())
				w.Rest(true)
				fatalUnless(t, stateOf(w) == stateOf(d), "%v, the power going ahead of %d inside %d, leaves %s, not %s", round, c, inside, stateOf(w), stateOf(d))
				fatalUnless(t, !w.Struck() && !w.On(), "the round is over: Struck %v, On %v", w.Struck(), w.On())
				s := someHarm(r, names)
				sameAnswer(t, w, d, s, round)
				fatalUnless(t, stateOf(w) == stateOf(d), "%v, and %v, leaves %s, not %s", round, s, stateOf(w), stateOf(d))
			}
		}
	}
}

// P12.12: what strikes a wound hangs on what is called of it alone: it goes beside others as it goes by itself.
func TestOthersChangeNothing(t *testing.T) {
	r := source(125)
	for range 200 {
		const many = 5
		var runs [many][]step
		var seeds [many]int64
		var alone, between, beside [many]string
		for i := range many {
			seeds[i] = r.Int63()
			for range 50 {
				runs[i] = append(runs[i], someStep(r, []string{"a", "b", "c"}))
			}
			w := wound.New(someDrive(seeds[i]))
			for _, s := range runs[i] {
				alone[i] += fmt.Sprintln(s, s.do(w), wholeState(w))
			}
		}
		var wounds [many]*wound.Wound
		for i := range many {
			wounds[i] = wound.New(someDrive(seeds[i]))
		}
		for done := [many]int{}; ; {
			i := r.Intn(many)
			if slices.Min(done[:]) == 50 {
				break
			}
			if done[i] < 50 {
				s := runs[i][done[i]]
				done[i]++
				between[i] += fmt.Sprintln(s, s.do(wounds[i]), wholeState(wounds[i]))
			}
		}
		var group sync.WaitGroup
		for i := range many {
			group.Go(func() {
				w := wound.New(someDrive(seeds[i]))
				for _, s := range runs[i] {
					beside[i] += fmt.Sprintln(s, s.do(w), wholeState(w))
				}
			})
		}
		group.Wait()
		fatalUnless(t, alone == between && alone == beside, "wounds strike each other")
	}
}

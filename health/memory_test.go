package health_test

import (
	"bytes"
	"math"
	"slices"
	"sync"
	"testing"

	"cairn/api"
	"cairn/health"
)

// sameList tells whether two lists are the same bit by bit.
func sameList(a, b []float64) bool { return slices.EqualFunc(a, b, same) }

// P27.12: what is handed in is not changed, nor is the room behind it.
func TestArgumentsAreNotChanged(t *testing.T) {
	r := source(292)
	for range 300 {
		n := r.Intn(20)
		fail := append(chances(r, n), 0.25, nan, 7)
		was := slices.Clone(fail)
		health.Chance(fail[:n], 0)
		health.Chance(fail, 0)
		health.Chance(fail[:n], -1)
		fatalUnless(t, sameList(fail, was), "Chance changed %v to %v", was, fail)

		samples := append(randomSamples(r, n), 5, inf, nan)
		was = slices.Clone(samples)
		for k := range 4 {
			health.Turn(samples[:n], k)
			health.Turn(samples, k)
		}
		fatalUnless(t, sameList(samples, was), "Turn changed %v to %v", was, samples)

		w := &words{keep: 0.5, scores: someScores()[:n+1]}
		p := append(w.save(), "the owner's"...)
		before := slices.Clone(p)
		b, err := health.Load(p[:len(p)-11])
		fatalUnless(t, err == api.OK, "Load: %v", err)
		play(t, r, b, &words{keep: w.keep, scores: slices.Clone(w.scores)}, 20)
		health.Load(p)
		fatalUnless(t, bytes.Equal(p, before), "Load changed %v to %v", before, p)
	}
}

// P27.12: what stands in the room behind a list is not looked at.
func TestRoomIsNotLookedAt(t *testing.T) {
	fail := []float64{0.5, 0.25, nan, 3}
	checkChance(t, fail[:2], 0)
	checkChance(t, fail[:0], 0)
	samples := []float64{1, 2, nan, inf}
	checkTurn(t, samples[:2], 1)
	checkTurn(t, samples[:0], 1)
	long := make([]float64, 65537)
	checkTurn(t, long[:65536], 1)
	checkChance(t, long[:100], 1)
	p := (&words{keep: 0.5, scores: []float32{1, 0.5}}).save()
	checkLoad(t, append(p, 0, 0, 0, 63)[:len(p)])
	checkLoad(t, append(p, 0, 0, 0, 63)[:len(p)-4])
}

// P27.12: what Load was given is not kept: a board stands, whatever is done to the bytes.
func TestNothingIsKept(t *testing.T) {
	r := source(293)
	for range 100 {
		w := &words{keep: pick(r, keeps()...), scores: someScores()}
		p := w.save()
		b, err := health.Load(p)
		fatalUnless(t, err == api.OK, "Load(%v): %v", p, err)
		r.Read(p)
		check(t, b, w)
		play(t, r, b, w, 50)
		check(t, b, w)
	}
}

// P27.12: answers are new memory, spare room too: whatever is done to them, the board and the other answers stay.
func TestAnswersAreNewMemory(t *testing.T) {
	b, w := board(t, 7, 0.75)
	play(t, source(294), b, w, 30)
	var orders [][]int
	var saved [][]byte
	for range 3 {
		orders, saved = append(orders, b.Order()), append(saved, b.Save())
	}
	for i := range orders {
		order, p := orders[i][:cap(orders[i])], saved[i][:cap(saved[i])]
		for j := range order {
			order[j] = -1 - i
		}
		for j := range p {
			p[j] = byte(200 + i)
		}
	}
	for i := range orders {
		for _, x := range orders[i][:cap(orders[i])] {
			fatalUnless(t, x == -1-i, "two answers of Order share memory")
		}
		for _, x := range saved[i][:cap(saved[i])] {
			fatalUnless(t, x == byte(200+i), "two answers of Save share memory")
		}
	}
	check(t, b, w)
	order, p := b.Order(), b.Save()
	was, before := slices.Clone(order), slices.Clone(p)
	play(t, source(295), b, w, 50)
	fatalUnless(t, slices.Equal(order, was) && bytes.Equal(p, before), "what was answered became another")
}

// P27.12: boards share nothing: two that are made alike, two that are loaded of the same bytes, one and the one that is loaded of what it saved.
func TestBoardsShareNothing(t *testing.T) {
	r := source(296)
	a, wordsOfA := board(t, 9, 0.9)
	b, wordsOfB := board(t, 9, 0.9)
	play(t, r, a, wordsOfA, 40)
	check(t, b, wordsOfB)
	play(t, r, b, wordsOfB, 40)
	check(t, a, wordsOfA)
	p := a.Save()
	c, err := health.Load(p)
	d, code := health.Load(p)
	fatalUnless(t, err == api.OK && code == api.OK, "Load(%v): %v, %v", p, err, code)
	wordsOfC := &words{keep: wordsOfA.keep, scores: slices.Clone(wordsOfA.scores)}
	play(t, r, c, wordsOfC, 40)
	check(t, a, wordsOfA)
	check(t, d, wordsOfA)
	check(t, c, wordsOfC)
}

// P27.12: nothing is kept from call to call: asked again, whatever was asked between, each call answers as before.
func TestAskedAgain(t *testing.T) {
	r := source(297)
	for range 50 {
		fail, samples := chances(r, r.Intn(12)), randomSamples(r, r.Intn(30))
		f, c := chance(t, fail, 1), turn(t, samples, 3)
		health.Chance(chances(r, 30), 2)
		health.Chance([]float64{nan}, 2)
		health.Turn(randomSamples(r, 100), 1)
		health.Turn(nil, math.MinInt)
		fatalUnless(t, same(chance(t, fail, 1), f) && sameComplex(turn(t, samples, 3), c), "asked again, Chance(%v, 1) or Turn(%v, 3) is another", fail, samples)
	}
}

// P27.12: many may ask one board at one time, and reckon with one list.
func TestManyAtOneTime(t *testing.T) {
	r := source(298)
	b, w := board(t, 20, 0.9)
	play(t, r, b, w, 100)
	order, p, score := w.order(), w.save(), float64(w.scores[3])
	fail, samples := chances(r, 20), randomSamples(r, 50)
	f, c := wordsOfChance(fail, 2), wordsOfTurn(samples, 3)
	var all sync.WaitGroup
	for range 8 {
		all.Go(func() {
			for range 200 {
				s, _ := b.Score(3)
				x, _ := health.Chance(fail, 2)
				y, _ := health.Turn(samples, 3)
				l, _ := health.Load(p)
				if !slices.Equal(b.Order(), order) || !bytes.Equal(b.Save(), p) || !same(s, score) || !same(x, f) || !sameComplex(y, c) || l == nil || !bytes.Equal(l.Save(), p) {
					t.Errorf("many at one time are answered otherwise than one")
					return
				}
			}
		})
	}
	all.Wait()
}

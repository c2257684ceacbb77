package health_test

import (
	"bytes"
	"math"
	"math/rand"
	"slices"
	"testing"

	"cairn/api"
	"cairn/health"
)

// tellAll tells each place of the board, one by one, and holds the one that is told and all others against P27.8.
func tellAll(t *testing.T, b *health.Board, n int, good bool) {
	t.Helper()
	scores := func() []float64 {
		l := make([]float64, n)
		for i := range l {
			l[i], _ = b.Score(i)
		}
		return l
	}
	was := scores()
	for i := range n {
		err := b.Tell(i, good)
		is := scores()
		fatalUnless(t, err == api.OK && 0 <= is[i] && is[i] <= 1 && !math.Signbit(is[i]), "behind Tell(%d, %v) the score %v is %v", i, good, was[i], is[i])
		fatalUnless(t, is[i] == was[i] || (is[i] > was[i]) == good, "Tell(%d, %v) turns the score from %v to %v", i, good, was[i], is[i])
		was[i] = is[i]
		fatalUnless(t, slices.Equal(was, is), "Tell(%d, %v) turns another place's score: %v, not %v", i, good, is, was)
	}
}

// between is a number of 32 bits above the one and below the other, of any size.
func between(r *rand.Rand, low, high float32) float32 {
	a, b := math.Float32bits(low), math.Float32bits(high)
	return math.Float32frombits(a + 1 + uint32(r.Int63n(int64(b-a-1))))
}

// P27.8: at keeps and scores of all sizes, those at the ends among them.
func TestScoresStayInTheirBounds(t *testing.T) {
	for _, keep := range keeps() {
		for _, good := range []bool{false, true} {
			scores := someScores()
			b, _ := loaded(t, keep, scores...)
			tellAll(t, b, len(scores), good)
		}
	}
	r := source(283)
	for range 6000 {
		// One keep is of any size, one close to 1, where what a score gains is little.
		keep := pick(r, between(r, 0, 1), between(r, 0.99, 1), between(r, 1-1.0/(1<<16), 1))
		b, _ := loaded(t, keep, between(r, 0, 1), between(r, 0.9, 1), between(r, 1-1.0/(1<<18), 1), keep, 1-keep)
		for range 8 {
			tellAll(t, b, 5, r.Intn(2) == 0)
		}
	}
}

// P27.8: a place of which nothing but good is told, from the beginning on, keeps the score 1, and nothing stands ahead of it.
func TestGoodPlacesStayGood(t *testing.T) {
	r := source(284)
	for _, keep := range keeps() {
		b, _ := board(t, 3, float64(keep))
		for range 40 {
			b.Tell(0, true)
			b.Tell(2, r.Intn(2) == 0)
		}
		for place := range 2 {
			f, err := b.Score(place)
			fatalUnless(t, f == 1 && err == api.OK, "with the keep %v the place %d has the score %v", keep, place, f)
		}
		fatalUnless(t, slices.Equal(b.Order(), []int{0, 1, 2}), "Order = %v", b.Order())
	}
}

// P27.9: at each moment of a play, what is loaded from what is saved goes on as the saved one does.
func TestThereAndBack(t *testing.T) {
	r := source(285)
	for range 100 {
		n := pick(r, 1, 2, 3, 17, 255)
		b, w := board(t, n, float64(pick(r, keeps()...)))
		for range 6 {
			p := b.Save()
			c, err := health.Load(p)
			fatalUnless(t, c != nil && err == api.OK, "Load(%v) = %v, %v", p, c, err)
			fatalUnless(t, bytes.Equal(c.Save(), p), "Save = %v, not %v", c.Save(), p)
			other := &words{keep: w.keep, scores: slices.Clone(w.scores)}
			seed := r.Int63()
			play(t, source(seed), b, w, 30)
			play(t, source(seed), c, other, 30)
			fatalUnless(t, bytes.Equal(b.Save(), c.Save()) && slices.Equal(b.Order(), c.Order()), "loaded anew, %v goes on as %v", w.save(), c.Save())
			check(t, c, other)
			if r.Intn(2) == 0 {
				b = c
			}
		}
		check(t, b, w)
	}
}

// P27.9: of each keep and score of the lists, and of random ones, the bytes come back.
func TestBytesComeBack(t *testing.T) {
	r := source(286)
	for _, keep := range keeps() {
		for _, s := range someScores() {
			loaded(t, keep, s, 1, s)
			w := &words{keep: keep, scores: []float32{s, between(r, 0, 1), 1}}
			b, err := health.Load(w.save())
			fatalUnless(t, err == api.OK && bytes.Equal(b.Save(), w.save()), "Save behind Load of %v = %v, %v", w.save(), b.Save(), err)
		}
	}
}

// P27.10: in its bounds, never greater with a greater most, nothing behind the last drive.
func TestRisk(t *testing.T) {
	r := source(287)
	for range 4000 {
		n := r.Intn(30)
		fail := chances(r, n)
		was := 1.0
		for most := range n + 2 {
			f := chance(t, fail, most)
			fatalUnless(t, 0 <= f && f <= was, "Chance(%v, %d) = %v, behind %v", fail, most, f, was)
			fatalUnless(t, most < n || same(f, 0), "Chance(%v, %d) = %v", fail, most, f)
			was = f
		}
		fatalUnless(t, same(chance(t, fail, math.MaxInt), 0), "Chance(%v, MaxInt) is not 0", fail)
	}
	for range 20 {
		fail := chances(r, 255)
		was := 1.0
		for most := range 257 {
			f := chance(t, fail, most)
			fatalUnless(t, 0 <= f && f <= was && (most < 255 || same(f, 0)), "Chance of 255 drives, most %d = %v, behind %v", most, f, was)
			was = f
		}
	}
}

// P27.10: drives that never fail, drives that always do.
func TestRiskOfSureDrives(t *testing.T) {
	for _, n := range []int{0, 1, 2, 3, 10, 100, 255} {
		zeros, ones := make([]float64, n), slices.Repeat([]float64{1}, n)
		for _, most := range []int{0, 1, 2, 5, n - 1, n, n + 1, 255, math.MaxInt} {
			if most < 0 {
				continue
			}
			fatalUnless(t, same(chance(t, zeros, most), 0), "of %d drives that never fail more than %d may", n, most)
			want := 0.0
			if most < n {
				want = 1
			}
			fatalUnless(t, same(chance(t, ones, most), want), "of %d drives that always fail more than %d do by the chance %v", n, most, chance(t, ones, most))
		}
	}
	// So many of them that surely fail, and no others.
	for sure := range 9 {
		for most := range 9 {
			fail := slices.Concat(slices.Repeat([]float64{1}, sure), make([]float64, 8-sure))
			source(int64(sure)).Shuffle(8, func(a, b int) { fail[a], fail[b] = fail[b], fail[a] })
			fatalUnless(t, (chance(t, fail, most) == 1) == (sure > most) && (sure > most || same(chance(t, fail, most), 0)), "Chance(%v, %d) = %v", fail, most, chance(t, fail, most))
		}
	}
}

// P27.10: one drive's chance is its own number.
func TestRiskOfOneDrive(t *testing.T) {
	r := source(288)
	for range 5000 {
		f := randomChance(r)
		got := chance(t, []float64{f}, 0)
		fatalUnless(t, got == f, "Chance(%v, 0) = %v", f, got)
		fatalUnless(t, same(chance(t, []float64{f}, 1), 0), "Chance(%v, 1) is not 0", f)
	}
}

// P27.11: k and k + 4 answer the same, also where k + 4 goes round; with 0 it is the sum.
func TestSwing(t *testing.T) {
	r := source(289)
	for range 300 {
		l := randomSamples(r, r.Intn(50))
		for _, k := range append(numbersOfTurns(), r.Int()-r.Int()) {
			fatalUnless(t, sameComplex(turn(t, l, k), turn(t, l, k+4)), "Turn(%v, %d) = %v, with %d %v", l, k, turn(t, l, k), k+4, turn(t, l, k+4))
		}
		sum := 0.0
		for _, x := range l {
			sum = plus(sum, x)
		}
		for _, k := range []int{0, 4, -8, math.MinInt} {
			fatalUnless(t, sameComplex(turn(t, l, k), complex(sum, 0)), "Turn(%v, %d) = %v, not %v", l, k, turn(t, l, k), sum)
		}
	}
}

// P27.11: a number that stands four times does not swing.
func TestSwingOfTheSame(t *testing.T) {
	r := source(290)
	for _, x := range append(randomSamples(r, 2000), 1<<40, -1<<40, 0, math.Copysign(0, -1)) {
		for k := 1; k <= 3; k++ {
			c := turn(t, []float64{x, x, x, x}, k)
			fatalUnless(t, sameComplex(c, 0), "Turn of %v four times, %d = %v", x, k, c)
		}
	}
}

// P27.11: whole numbers answer whole numbers, and the Turn of a sum is the sum of the Turns.
func TestSwingOfWholeNumbers(t *testing.T) {
	const most = 1<<20 - 1
	whole := func(c complex128) bool {
		return math.Trunc(real(c)) == real(c) && math.Trunc(imag(c)) == imag(c)
	}
	r := source(291)
	for round := range 60 {
		n := pick(r, 0, 1, 3, 4, 5, 100, 4095, 4096)
		a, b, both := make([]float64, n), make([]float64, n), make([]float64, n)
		for i := range n {
			a[i], b[i] = float64(r.Intn(2*most+1)-most), float64(r.Intn(2*most+1)-most)
			if round%4 == 0 {
				a[i], b[i] = most, pick(r, -1.0, 1)*most
			}
			both[i] = a[i] + b[i]
		}
		for k := -3; k < 8; k++ {
			x, y, z := turn(t, a, k), turn(t, b, k), turn(t, both, k)
			fatalUnless(t, whole(x) && whole(y) && z == x+y, "Turns of %d whole numbers, %d: %v, %v, of their sums %v", n, k, x, y, z)
		}
	}
}

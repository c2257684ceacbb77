package health_test

import (
	"bytes"
	"encoding/binary"
	"math"
	"math/big"
	"math/rand"
	"slices"
	"testing"

	"cairn/api"
	"cairn/health"
)

func exact(x float64) *big.Rat { return new(big.Rat).SetFloat64(x) }

// plus, less and times are the exact result, rounded to the nearest number of 64 bits.
func plus(a, b float64) float64 {
	f, _ := new(big.Rat).Add(exact(a), exact(b)).Float64()
	return f
}

func less(a, b float64) float64 {
	f, _ := new(big.Rat).Sub(exact(a), exact(b)).Float64()
	return f
}

func times(a, b float64) float64 {
	f, _ := new(big.Rat).Mul(exact(a), exact(b)).Float64()
	return f
}

// to32 is the nearest number of 32 bits.
func to32(x float64) float32 {
	f, _ := exact(x).Float32()
	return f
}

// words is a board in the chapter's own words.
type words struct {
	keep   float32
	scores []float32
}

func newWords(n int, keep float64) *words {
	return &words{keep: to32(keep), scores: slices.Repeat([]float32{1}, n)}
}

func (w *words) tell(place int, good bool) {
	k, s, by := float64(w.keep), float64(w.scores[place]), 0.0
	if good {
		by = 1
	}
	w.scores[place] = to32(plus(times(k, s), times(less(1, k), by)))
}

// ahead tells whether the place a stands ahead of the place b.
func (w *words) ahead(a, b int) bool {
	return w.scores[a] > w.scores[b] || w.scores[a] == w.scores[b] && a < b
}

// order gives each place the position that is how many others stand ahead of it.
func (w *words) order() []int {
	order := make([]int, len(w.scores))
	for a := range w.scores {
		at := 0
		for b := range w.scores {
			if w.ahead(b, a) {
				at++
			}
		}
		order[at] = a
	}
	return order
}

func (w *words) save() []byte {
	p := binary.LittleEndian.AppendUint32([]byte{byte(len(w.scores))}, math.Float32bits(w.keep))
	for _, s := range w.scores {
		p = binary.LittleEndian.AppendUint32(p, math.Float32bits(s))
	}
	return p
}

// wordsOfLoad tells whether there is a board that is saved so, reading the bits part by part: the sign, the exponent, the fraction.
func wordsOfLoad(p []byte) bool {
	if len(p) < 1 || p[0] < 1 || len(p) != 5+4*int(p[0]) {
		return false
	}
	for i := 1; i < len(p); i += 4 {
		bits := binary.LittleEndian.Uint32(p[i:])
		sign, exponent, fraction := bits>>31, bits>>23&255, bits&(1<<23-1)
		below1, zero := exponent < 127, exponent == 0 && fraction == 0
		one := exponent == 127 && fraction == 0
		if sign == 1 || i == 1 && (zero || !below1) || !below1 && !one {
			return false
		}
	}
	return true
}

// wordsOfChance is Chance of arguments that may be.
func wordsOfChance(fail []float64, most int) float64 {
	list := map[int]float64{0: 1}
	for i, f := range fail {
		g := less(1, f)
		next := map[int]float64{}
		for j := 0; j <= i+1; j++ {
			next[j] = plus(times(list[j], g), times(list[j-1], f))
		}
		list = next
	}
	sum := 0.0
	for j := len(fail); j >= 0; j-- {
		if j > most {
			sum = plus(sum, list[j])
		}
	}
	if sum > 1 {
		return 1
	}
	return sum
}

// wordsOfTurn is Turn of arguments that may be.
func wordsOfTurn(samples []float64, k int) complex128 {
	var re, im float64
	for t, x := range samples {
		product := new(big.Int).Mul(big.NewInt(int64(k)), big.NewInt(int64(t)))
		switch q := new(big.Int).Mod(product, big.NewInt(4)).Int64(); q { // Mod is never below 0
		case 0:
			re = plus(re, x)
		case 1:
			im = plus(im, x)
		case 2:
			re = less(re, x)
		case 3:
			im = less(im, x)
		}
	}
	return complex(re, im)
}

// noPlaces are numbers that are no place of a board with n places.
func noPlaces(n int) []int {
	return []int{-1, n, n + 1, -n - 1, 255, 256, 1 << 32, math.MinInt, math.MaxInt}
}

// check tells whether the board answers each call that changes nothing as its words do; it asks twice, since asking changes nothing.
func check(t *testing.T, b *health.Board, w *words) {
	t.Helper()
	for range 2 {
		for i, s := range w.scores {
			f, err := b.Score(i)
			fatalUnless(t, same(f, float64(s)) && err == api.OK, "Score(%d) = %v, %v, not %v", i, f, err, s)
		}
		for _, i := range noPlaces(len(w.scores)) {
			f, err := b.Score(i)
			fatalUnless(t, i < len(w.scores) && i >= 0 || same(f, 0) && err == api.ErrArg, "Score(%d) = %v, %v", i, f, err)
		}
		order, p := b.Order(), b.Save()
		fatalUnless(t, slices.Equal(order, w.order()), "Order = %v, not %v, of %v", order, w.order(), w.scores)
		fatalUnless(t, bytes.Equal(p, w.save()), "Save = %v, not %v", p, w.save())
	}
}

// board is a board that is there, and its words.
func board(t *testing.T, n int, keep float64) (*health.Board, *words) {
	t.Helper()
	b, err := health.New(n, keep)
	fatalUnless(t, b != nil && err == api.OK, "New(%d, %v) = %v, %v", n, keep, b, err)
	return b, newWords(n, keep)
}

// loaded is a board of that keep and those scores, and its words.
func loaded(t *testing.T, keep float32, scores ...float32) (*health.Board, *words) {
	t.Helper()
	w := &words{keep: keep, scores: scores}
	b, err := health.Load(w.save())
	fatalUnless(t, b != nil && err == api.OK, "Load(%v) = %v, %v", w.save(), b, err)
	return b, w
}

// play tells the board and its words the same at random.
func play(t *testing.T, r *rand.Rand, b *health.Board, w *words, steps int) {
	t.Helper()
	for range steps {
		place, good := r.Intn(len(w.scores)), r.Intn(2) == 0
		err := b.Tell(place, good)
		fatalUnless(t, err == api.OK, "Tell(%d, %v) = %v", place, good, err)
		w.tell(place, good)
		f, err := b.Score(place)
		fatalUnless(t, same(f, float64(w.scores[place])) && err == api.OK, "behind Tell(%d, %v) with the keep %v the score is %v, not %v", place, good, w.keep, f, w.scores[place])
	}
}

// keeps are numbers of 32 bits that a board may keep: the least and the greatest ones, those around the powers of two, plain ones.
func keeps() []float32 {
	l := []float32{math.SmallestNonzeroFloat32, 2 * math.SmallestNonzeroFloat32, 0.1, 0.3, 0.7, 0.9, 0.99, 0.999, 1 - 1.0/(1<<24), 1 - 1.0/(1<<23)}
	for e := 1; e < 149; e += 7 {
		x := float32(math.Ldexp(1, -e))
		l = append(l, x, math.Nextafter32(x, 0), math.Nextafter32(x, 1))
	}
	return slices.DeleteFunc(l, func(x float32) bool { return x <= 0 || x >= 1 })
}

// someScores are scores that may be: the ends, and what stands beside the keeps.
func someScores() []float32 { return append(keeps(), 0, 1) }

// randomChance is a chance of any size: one of the ends, a plain one, one close to 0 or to 1.
func randomChance(r *rand.Rand) float64 {
	switch r.Intn(8) {
	case 0:
		return float64(r.Intn(2))
	case 1:
		return math.Ldexp(r.Float64(), -r.Intn(1100))
	case 2:
		return 1 - math.Ldexp(r.Float64(), -r.Intn(60))
	}
	return r.Float64()
}

// chances are random ones.
func chances(r *rand.Rand, n int) []float64 {
	l := make([]float64, n)
	for i := range l {
		l[i] = randomChance(r)
	}
	return l
}

// randomSamples are samples of all sizes and signs, some of them zeros of both signs and the bounds.
func randomSamples(r *rand.Rand, n int) []float64 {
	l := make([]float64, n)
	for i := range l {
		switch r.Intn(6) {
		case 0:
			l[i] = pick(r, 0, math.Copysign(0, -1), 1<<40, -1<<40, math.SmallestNonzeroFloat64)
		case 1:
			l[i] = float64(r.Intn(1<<20) - 1<<19)
		default:
			l[i] = math.Ldexp(r.Float64()*2-1, r.Intn(140)-99)
		}
	}
	return l
}

// same tells whether two numbers have the same bits: a zero with a sign is not one without.
func same(a, b float64) bool { return math.Float64bits(a) == math.Float64bits(b) }

func sameComplex(a, b complex128) bool { return same(real(a), real(b)) && same(imag(a), imag(b)) }

// source is random, and the same in each run.
func source(seed int64) *rand.Rand { return rand.New(rand.NewSource(seed)) }

// pick is one of the list.
func pick[E any](r *rand.Rand, l ...E) E { return l[r.Intn(len(l))] }

func fatalUnless(t *testing.T, is bool, says string, args ...any) {
	t.Helper()
	if !is {
		t.Fatalf(says, args...)
	}
}

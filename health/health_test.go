package health_test

import (
	"math"
	"slices"
	"testing"

	"cairn/api"
	"cairn/health"
)

var nan, inf = math.NaN(), math.Inf(1)

// The chapter's examples of boards, row by row.
func TestExamples(t *testing.T) {
	for _, x := range []struct {
		n    int
		keep float64
	}{{0, 0.5}, {2, 0}, {2, 1}, {2, nan}, {256, 0.5}, {2, 0.999999999}} {
		b, err := health.New(x.n, x.keep)
		fatalUnless(t, b == nil && err == api.ErrArg, "New(%d, %v) = %v, %v", x.n, x.keep, b, err)
	}
	b, err := health.New(3, 0.5)
	fatalUnless(t, b != nil && err == api.OK, "New(3, 0.5) = %v, %v", b, err)
	for _, x := range []struct {
		good bool
		want float64
	}{{false, 0.5}, {false, 0.25}, {true, 0.625}} {
		err := b.Tell(1, x.good)
		f, code := b.Score(1)
		fatalUnless(t, err == api.OK && f == x.want && code == api.OK, "Tell(1, %v) = %v, Score(1) = %v, %v", x.good, err, f, code)
	}
	f, err := b.Score(0)
	fatalUnless(t, f == 1 && err == api.OK, "Score(0) = %v, %v", f, err)
	f, err = b.Score(3)
	fatalUnless(t, f == 0 && err == api.ErrArg, "Score(3) = %v, %v", f, err)
	err = b.Tell(-1, true)
	fatalUnless(t, err == api.ErrArg, "Tell(-1, true) = %v", err)
	fatalUnless(t, slices.Equal(b.Order(), []int{0, 2, 1}), "Order = %v", b.Order())

	saved := []byte{3, 0, 0, 0, 63, 0, 0, 128, 63, 0, 0, 32, 63, 0, 0, 128, 63}
	fatalUnless(t, slices.Equal(b.Save(), saved), "Save = %v", b.Save())
	c, err := health.Load(saved)
	fatalUnless(t, c != nil && err == api.OK, "Load = %v, %v", c, err)
	check(t, c, &words{keep: 0.5, scores: []float32{1, 0.625, 1}})
	none := slices.Clone(saved)
	none[0] = 0
	for _, p := range [][]byte{saved[:16], none, {1, 0, 0, 0, 63, 0, 0, 0, 128}} {
		c, err := health.Load(p)
		fatalUnless(t, c == nil && err == api.ErrArg, "Load(%v) = %v, %v", p, c, err)
	}

	d, err := health.New(1, 0.75)
	fatalUnless(t, err == api.OK, "New(1, 0.75): %v", err)
	for range 3 {
		err := d.Tell(0, false)
		fatalUnless(t, err == api.OK, "Tell(0, false) = %v", err)
	}
	f, err = d.Score(0)
	fatalUnless(t, f == 0.421875 && err == api.OK, "Score(0) = %v, %v", f, err)
}

// P27.1: each number of places that may be, and others; of all of them only the number says what is wrong.
func TestNewOfPlaces(t *testing.T) {
	for n := 1; n <= 255; n++ {
		b, w := board(t, n, 0.25)
		if n%32 < 2 || n == 255 {
			check(t, b, w)
		}
	}
	for _, n := range []int{0, -1, -255, 256, 257, 256 + 3, 1 << 16, 1<<32 + 3, math.MinInt, math.MaxInt} {
		b, err := health.New(n, 0.25)
		fatalUnless(t, b == nil && err == api.ErrArg, "New(%d, 0.25) = %v, %v", n, b, err)
		b, err = health.New(n, nan)
		fatalUnless(t, b == nil && err == api.ErrArg, "New(%d, NaN) = %v, %v", n, b, err)
	}
}

// P27.1: it is the keep to 32 that counts, at both ends; where two are as near, the even one.
func TestNewOfKeeps(t *testing.T) {
	least, greatest := math.Ldexp(1, -149), 1-math.Ldexp(1, -24)
	for _, x := range []struct {
		keep float64
		want float64
	}{
		{least, least}, {math.Nextafter(least/2, 1), least}, {least * 1.49, least}, {least * 1.5, 2 * least},
		{greatest, greatest}, {math.Nextafter(1-math.Ldexp(1, -25), 0), greatest},
		{0.5, 0.5}, {0.1, float64(float32(0.1))}, {0.5 + math.Ldexp(1, -25), 0.5}, {0.5 + 3*math.Ldexp(1, -25), 0.5 + math.Ldexp(1, -23)},
		{math.Ldexp(1, -126), math.Ldexp(1, -126)}, {1.0 / 3, float64(float32(1.0 / 3))},
	} {
		b, w := board(t, 2, x.keep)
		fatalUnless(t, float64(w.keep) == x.want, "to 32 %v is %v, not %v", x.keep, w.keep, x.want)
		check(t, b, w)
	}
	for _, keep := range []float64{
		0, math.Copysign(0, -1), 1, nan, -nan, inf, -inf, -0.5, -least, -1, 2, 1.5, math.MaxFloat64, -math.MaxFloat64, math.MaxFloat32, 1e300, 1e39,
		math.SmallestNonzeroFloat64, 1e-60, least / 2, least / 4, -least / 2, 1 - math.Ldexp(1, -25), 1 - math.Ldexp(1, -53), math.Nextafter(1, 2),
	} {
		b, err := health.New(2, keep)
		fatalUnless(t, b == nil && err == api.ErrArg, "New(2, %v) = %v, %v", keep, b, err)
	}
}

// P27.2, P27.3: a place that isn't there is refused, whatever is said of it, and changes no score.
func TestNoPlace(t *testing.T) {
	for _, n := range []int{1, 2, 3, 254, 255} {
		b, w := board(t, n, 0.75)
		play(t, source(int64(n)), b, w, 20)
		for _, place := range noPlaces(n) {
			if place >= 0 && place < n {
				continue
			}
			for _, good := range []bool{false, true} {
				err := b.Tell(place, good)
				fatalUnless(t, err == api.ErrArg, "Tell(%d, %v) of %d places = %v", place, good, n, err)
			}
		}
		check(t, b, w)
	}
}

// P27.1 to P27.5: a board that is not there, and one of the zero value, which has no places and the keep 0.
func TestNoBoard(t *testing.T) {
	var none *health.Board
	var zero health.Board
	for _, place := range append(noPlaces(0), 0, 1) {
		for _, good := range []bool{false, true} {
			err, code := none.Tell(place, good), zero.Tell(place, good)
			fatalUnless(t, err == api.ErrNil && code == api.ErrArg, "Tell(%d, %v) = %v, %v", place, good, err, code)
		}
		f, err := none.Score(place)
		fatalUnless(t, same(f, 0) && err == api.ErrNil, "Score(%d) of none = %v, %v", place, f, err)
		f, err = zero.Score(place)
		fatalUnless(t, same(f, 0) && err == api.ErrArg, "Score(%d) of no places = %v, %v", place, f, err)
	}
	fatalUnless(t, len(none.Order()) == 0 && len(none.Save()) == 0, "a board that is not there: %v, %v", none.Order(), none.Save())
	fatalUnless(t, len(zero.Order()) == 0 && slices.Equal(zero.Save(), []byte{0, 0, 0, 0, 0}), "a board without places: %v, %v", zero.Order(), zero.Save())
	b, err := health.Load(zero.Save())
	fatalUnless(t, b == nil && err == api.ErrArg, "Load of a board without places = %v, %v", b, err)
}

// P27.2: one Tell of every keep and score of the list, held against what is reckoned exactly.
func TestTellOfEveryScore(t *testing.T) {
	for _, keep := range keeps() {
		for _, good := range []bool{false, true} {
			scores := someScores()
			b, w := loaded(t, keep, scores...)
			for i, s := range slices.Clone(scores) {
				w.tell(i, good)
				err := b.Tell(i, good)
				f, code := b.Score(i)
				fatalUnless(t, err == api.OK && code == api.OK && same(f, float64(w.scores[i])), "behind Tell of %v with the keep %v the score %v is %v, not %v", good, keep, s, f, w.scores[i])
			}
			check(t, b, w)
		}
	}
}

// P27.2: it is the keep to 32 that is reckoned with, and each score is one of 32.
func TestTellTo32(t *testing.T) {
	b, _ := board(t, 1, 0.1)
	b.Tell(0, false)
	f, _ := b.Score(0)
	fatalUnless(t, f == float64(float32(0.1)) && f != 0.1, "the keep 0.1 is %v", f)
	b.Tell(0, false)
	f, _ = b.Score(0)
	exactly := float64(float32(0.1)) * float64(float32(0.1))
	fatalUnless(t, f == float64(float32(exactly)) && f != exactly, "the keep's square is %v", f)
}

// P27.2: told ill for ever, a score falls to zero, or stays at the least one that the keep leaves as it is; told well, it rises again.
func TestTellForEver(t *testing.T) {
	for _, x := range []struct {
		keep float64
		low  float64
	}{{0.5, 0}, {0.25, 0}, {math.Ldexp(1, -149), 0}, {0.75, 2 * math.Ldexp(1, -149)}} {
		b, w := board(t, 1, x.keep)
		for range 600 {
			b.Tell(0, false)
			w.tell(0, false)
		}
		f, _ := b.Score(0)
		fatalUnless(t, same(f, x.low), "with the keep %v the score falls to %v, not %v", x.keep, f, x.low)
		check(t, b, w)
		for range 600 {
			b.Tell(0, true)
			w.tell(0, true)
		}
		check(t, b, w)
	}
}

// P27.2 to P27.5: random boards that are told random things.
func TestPlay(t *testing.T) {
	r := source(271)
	for range 60 {
		b, w := board(t, 1+r.Intn(40), pick(r, r.Float64()*0.999+0.0001, 0.9, 0.99, 0.5, 0.125))
		for range 5 {
			play(t, r, b, w, 60)
			check(t, b, w)
		}
	}
	b, w := board(t, 255, 0.9)
	play(t, r, b, w, 3000)
	check(t, b, w)
}

// P27.4: places with the same score, in every arrangement of few scores.
func TestOrder(t *testing.T) {
	few := []float32{0, 0.5, 1}
	for n := 1; n <= 6; n++ {
		choices := 1
		for range n {
			choices *= len(few)
		}
		for number := range choices {
			scores := make([]float32, n)
			for i, rest := 0, number; i < n; i, rest = i+1, rest/len(few) {
				scores[i] = few[rest%len(few)]
			}
			b, w := loaded(t, 0.5, scores...)
			fatalUnless(t, slices.Equal(b.Order(), w.order()), "Order of %v = %v", scores, b.Order())
		}
	}
	b, _ := loaded(t, 0.5, 0.5, math.Nextafter32(0.5, 1), 0, math.SmallestNonzeroFloat32, 1, math.Nextafter32(1, 0))
	fatalUnless(t, slices.Equal(b.Order(), []int{4, 5, 1, 0, 3, 2}), "Order of close scores = %v", b.Order())
}

// P27.4: so many places that a sort which does not keep the order of the same would show.
func TestOrderOfMany(t *testing.T) {
	r := source(274)
	for range 50 {
		scores := make([]float32, 1+r.Intn(255))
		for i := range scores {
			scores[i] = float32(r.Intn(4)) / 4
		}
		b, w := loaded(t, 0.5, scores...)
		fatalUnless(t, slices.Equal(b.Order(), w.order()), "Order of %v = %v", scores, b.Order())
	}
	b, _ := board(t, 255, 0.5)
	for i, place := range b.Order() {
		fatalUnless(t, place == i, "the place of number %d of a new board is %d", i, place)
	}
}

package health_test

import (
	"math"
	"slices"
	"testing"

	"cairn/api"
	"cairn/health"
)

// chance is Chance of arguments that may be.
func chance(t *testing.T, fail []float64, most int) float64 {
	t.Helper()
	f, err := health.Chance(fail, most)
	fatalUnless(t, err == api.OK, "Chance(%v, %d): %v", fail, most, err)
	return f
}

// checkChance holds Chance against the chapter's words.
func checkChance(t *testing.T, fail []float64, most int) {
	t.Helper()
	f, want := chance(t, fail, most), wordsOfChance(fail, most)
	fatalUnless(t, same(f, want), "Chance(%v, %d) = %v, not %v", fail, most, f, want)
}

// The chapter's examples of Chance, row by row.
func TestChanceOfTheExamples(t *testing.T) {
	for _, x := range []struct {
		fail []float64
		most int
		want float64
		err  api.Errno
	}{
		{[]float64{0.5, 0.5}, 0, 0.75, api.OK}, {[]float64{0.5, 0.5}, 1, 0.25, api.OK}, {[]float64{0.5, 0.5}, 2, 0, api.OK},
		{nil, 0, 0, api.OK}, {[]float64{0.25}, 0, 0.25, api.OK}, {[]float64{1, 1, 1}, 2, 1, api.OK},
		{[]float64{0.5}, -1, 0, api.ErrArg}, {[]float64{1.5}, 0, 0, api.ErrArg},
	} {
		f, err := health.Chance(x.fail, x.most)
		fatalUnless(t, same(f, x.want) && err == x.err, "Chance(%v, %d) = %v, %v, not %v, %v", x.fail, x.most, f, err, x.want, x.err)
	}
}

// P27.6: what is refused: too many numbers ahead of all else, a number that is no chance, wherever it stands, a most below 0.
func TestChanceOfWrongArguments(t *testing.T) {
	wrong := []float64{nan, -nan, inf, -inf, -1, 2, 1.5, -math.SmallestNonzeroFloat64, math.Nextafter(1, 2), math.MaxFloat64, -math.MaxFloat64}
	below := []int{-1, -2, -255, math.MinInt}
	refused := func(fail []float64, most int, want api.Errno) {
		t.Helper()
		f, err := health.Chance(fail, most)
		fatalUnless(t, same(f, 0) && err == want, "Chance(%d numbers, %d) = %v, %v, not %v", len(fail), most, f, err, want)
	}
	for _, n := range []int{1, 2, 7, 255} {
		for at := range n {
			fail := slices.Repeat([]float64{0.5}, n)
			fail[at] = wrong[at%len(wrong)]
			refused(fail, at, api.ErrArg)
		}
	}
	for _, x := range wrong {
		refused([]float64{x}, 0, api.ErrArg)
		refused([]float64{0, 1, x}, 5, api.ErrArg)
		refused([]float64{x}, -1, api.ErrArg)
		refused(slices.Repeat([]float64{x}, 256), 0, api.ErrLarge)
	}
	for _, most := range below {
		refused(nil, most, api.ErrArg)
		refused([]float64{0.5}, most, api.ErrArg)
		refused(make([]float64, 255), most, api.ErrArg)
		refused(make([]float64, 256), most, api.ErrLarge)
	}
	for _, n := range []int{256, 257, 1000, 1 << 20} {
		refused(make([]float64, n), 0, api.ErrLarge)
	}
}

// P27.6: the ends of what a chance may be, and a zero with a sign, which is as good as one without.
func TestChanceOfEdges(t *testing.T) {
	zero := math.Copysign(0, -1)
	edges := []float64{0, zero, 1, 0.5, math.SmallestNonzeroFloat64, math.Nextafter(1, 0), math.Nextafter(0.5, 0), math.Ldexp(1, -53), math.Ldexp(1, -54), math.Ldexp(1, -600)}
	for most := range 4 {
		for _, a := range edges {
			checkChance(t, []float64{a}, most)
			for _, b := range edges {
				checkChance(t, []float64{a, b}, most)
				for _, c := range edges {
					checkChance(t, []float64{a, b, c}, most)
				}
			}
		}
	}
	for _, most := range []int{0, 1, 2, 100} {
		checkChance(t, []float64{zero, zero}, most)
		checkChance(t, nil, most)
	}
}

// P27.6: every most, also ones that have no number above them.
func TestChanceOfEveryMost(t *testing.T) {
	r := source(276)
	for n := range 12 {
		fail := chances(r, n)
		for most := range n + 3 {
			checkChance(t, fail, most)
		}
		for _, most := range []int{255, 256, 1 << 32, math.MaxInt - 1, math.MaxInt} {
			checkChance(t, fail, most)
		}
	}
}

// P27.6: each operation is rounded alone, in the order that the words say: random chances against what is reckoned exactly.
func TestChanceOfRandomNumbers(t *testing.T) {
	r := source(277)
	for range 4000 {
		n := r.Intn(9)
		checkChance(t, chances(r, n), r.Intn(n+1))
	}
	for range 12 {
		n := 40 + r.Intn(40)
		checkChance(t, chances(r, n), r.Intn(5))
	}
}

// P27.6: as many drives as may be.
func TestChanceOfManyDrives(t *testing.T) {
	r := source(278)
	for _, n := range []int{254, 255} {
		for _, most := range []int{0, n - 1, n} {
			few := make([]float64, n)
			for i := range few {
				few[i] = float64(r.Intn(3)) / 2
			}
			checkChance(t, few, most)
		}
	}
	checkChance(t, slices.Repeat([]float64{0.1}, 255), 20)
	for most := range 256 {
		f := chance(t, slices.Repeat([]float64{0.01}, 255), most)
		fatalUnless(t, 0 <= f && f <= 1 && (most < 2) == (f > 0.5), "Chance of 255 drives, most %d = %v", most, f)
	}
}

// P27.6: chances of numbers that are known: of drives that are alike, by the binomial theorem.
func TestChanceOfLikeDrives(t *testing.T) {
	for n := 1; n <= 20; n++ {
		ways, above := 1, 1<<n // how many choose just j, how many j or more
		for most := range n + 1 {
			above -= ways
			f := chance(t, slices.Repeat([]float64{0.5}, n), most)
			fatalUnless(t, f == math.Ldexp(float64(above), -n), "Chance of %d halves, most %d = %v, not %d of %d", n, most, f, above, 1<<n)
			ways = ways * (n - most) / (most + 1)
		}
	}
}

// P27.6: the sum of all is not above 1, though it comes to more where it is rounded.
func TestChanceIsCutAtOne(t *testing.T) {
	r := source(279)
	cut := 0
	for range 3000 {
		fail := []float64{1}
		for range 1 + r.Intn(5) {
			fail = append(fail, r.Float64())
		}
		checkChance(t, fail, 0)
		if uncut(fail) > 1 {
			cut++
			fatalUnless(t, chance(t, fail, 0) == 1, "Chance(%v, 0) is not cut", fail)
		}
	}
	fatalUnless(t, cut > 0, "no list came to more than 1")
}

// uncut is the sum of the chances of all numbers above 0, in the order of the chapter's words.
func uncut(fail []float64) float64 {
	just := []float64{1}
	for _, f := range fail {
		next := make([]float64, len(just)+1)
		for j, p := range just {
			next[j] = plus(next[j], times(p, less(1, f)))
			next[j+1] = times(p, f)
		}
		just = next
	}
	sum := 0.0
	for _, p := range slices.Backward(just[1:]) {
		sum = plus(sum, p)
	}
	return sum
}

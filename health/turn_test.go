package health_test

import (
	"math"
	"slices"
	"testing"

	"cairn/api"
	"cairn/health"
)

// turn is Turn of arguments that may be.
func turn(t *testing.T, samples []float64, k int) complex128 {
	t.Helper()
	c, err := health.Turn(samples, k)
	fatalUnless(t, err == api.OK, "Turn(%d samples, %d): %v", len(samples), k, err)
	return c
}

// checkTurn holds Turn against the chapter's words.
func checkTurn(t *testing.T, samples []float64, k int) {
	t.Helper()
	c, want := turn(t, samples, k), wordsOfTurn(samples, k)
	fatalUnless(t, sameComplex(c, want), "Turn(%d samples, %d) = %v, not %v", len(samples), k, c, want)
}

// numbersOfTurns are numbers of all rests by 4, small and great ones of both signs.
func numbersOfTurns() []int {
	var l []int
	for k := -9; k <= 9; k++ {
		l = append(l, k)
	}
	for i := range 5 {
		l = append(l, math.MinInt+i, math.MaxInt-i, 1<<31+i, -1<<31-i, 1<<62+i, -1<<62-i)
	}
	return l
}

// The chapter's examples of Turn, row by row.
func TestTurnOfTheExamples(t *testing.T) {
	four := []float64{1, 2, 3, 4}
	for _, x := range []struct {
		samples []float64
		k       int
		want    complex128
		err     api.Errno
	}{
		{four, 0, 10, api.OK}, {four, 1, -2 - 2i, api.OK}, {four, 2, -2, api.OK}, {four, -1, -2 + 2i, api.OK},
		{nil, 7, 0, api.OK}, {[]float64{5, 5, 5, 5}, 1, 0, api.OK}, {[]float64{nan}, 0, 0, api.ErrArg},
	} {
		c, err := health.Turn(x.samples, x.k)
		fatalUnless(t, sameComplex(c, x.want) && err == x.err, "Turn(%v, %d) = %v, %v, not %v, %v", x.samples, x.k, c, err, x.want, x.err)
	}
}

// P27.7: what is refused: too many samples ahead of all else, one that is beyond the bounds or no number, wherever it stands.
func TestTurnOfWrongArguments(t *testing.T) {
	const bound = 1 << 40
	refused := func(samples []float64, k int, want api.Errno) {
		t.Helper()
		c, err := health.Turn(samples, k)
		fatalUnless(t, sameComplex(c, 0) && err == want, "Turn(%d samples, %d) = %v, %v, not %v", len(samples), k, c, err, want)
	}
	wrong := []float64{nan, -nan, inf, -inf, bound + 1, -bound - 1, math.Nextafter(bound, inf), math.Nextafter(-bound, -inf), math.MaxFloat64, -math.MaxFloat64}
	for _, x := range wrong {
		for k := range 4 {
			refused([]float64{x}, k, api.ErrArg)
			refused([]float64{1, 2, 3, 4, x}, k, api.ErrArg)
			refused([]float64{x, 2, 3, 4, 5}, k, api.ErrArg)
			refused([]float64{1, 2, x, 4, 5, -x}, k, api.ErrArg)
		}
		long := slices.Repeat([]float64{3}, 65536)
		long[65535] = x
		refused(long, 1, api.ErrArg)
		refused(append(long, x), 1, api.ErrLarge)
	}
	for _, n := range []int{65537, 65538, 1 << 20} {
		refused(make([]float64, n), 0, api.ErrLarge)
	}
}

// P27.7: the bounds themselves, zeros of both signs and the least numbers are samples; a zero in the answer has no sign.
func TestTurnOfEdges(t *testing.T) {
	const bound = 1 << 40
	edges := []float64{0, math.Copysign(0, -1), bound, -bound, math.Nextafter(bound, 0), math.SmallestNonzeroFloat64, -math.SmallestNonzeroFloat64, 1, -1}
	for k := -4; k < 5; k++ {
		for _, a := range edges {
			checkTurn(t, []float64{a}, k)
			for _, b := range edges {
				checkTurn(t, []float64{a, b}, k)
				for _, c := range edges {
					checkTurn(t, []float64{a, b, c}, k)
					checkTurn(t, []float64{a, 0, b, 0, c}, k)
				}
			}
		}
	}
	for _, k := range numbersOfTurns() {
		for n := range 9 {
			c := turn(t, slices.Repeat([]float64{math.Copysign(0, -1)}, n), k)
			fatalUnless(t, sameComplex(c, 0), "Turn of %d zeros with a sign, %d = %v", n, k, c)
		}
	}
}

// P27.7: k of every rest by 4 and of every size: k times t can be beyond what an int holds.
func TestTurnOfEveryK(t *testing.T) {
	r := source(280)
	for _, k := range numbersOfTurns() {
		for n := range 10 {
			alone := make([]float64, n+1)
			alone[n] = 7
			checkTurn(t, alone, k)
			checkTurn(t, randomSamples(r, n), k)
		}
		checkTurn(t, randomSamples(r, 100), k)
	}
}

// P27.7: each addition is rounded alone, in the samples' order: random samples against what is reckoned exactly.
func TestTurnOfRandomSamples(t *testing.T) {
	r := source(281)
	for range 1500 {
		checkTurn(t, randomSamples(r, r.Intn(40)), r.Int()-r.Int())
	}
	for k := range 4 {
		checkTurn(t, randomSamples(r, 3000), k)
	}
	// What is too small beside a great one is lost behind it, and not ahead of it.
	tiny := math.Ldexp(1, -13)
	for k := range 4 {
		first := turn(t, []float64{tiny, 0, 0, 0, 1 << 40, 0, 0, 0, -1 << 40}, k)
		last := turn(t, []float64{1 << 40, 0, 0, 0, -1 << 40, 0, 0, 0, tiny}, k)
		fatalUnless(t, sameComplex(first, 0) && sameComplex(last, complex(tiny, 0)), "with %d: %v, %v", k, first, last)
	}
}

// P27.7: as many samples as may be, at the bounds.
func TestTurnOfManySamples(t *testing.T) {
	const bound, n = 1 << 40, 65536
	l := slices.Repeat([]float64{bound}, n)
	for k, want := range []complex128{bound * n, 0, 0, 0} {
		c := turn(t, l, k)
		fatalUnless(t, sameComplex(c, want), "Turn of the bound %d times, %d = %v, not %v", n, k, c, want)
	}
	for i := range l {
		l[i] = []float64{bound, bound, -bound, -bound}[i%4]
	}
	for k, want := range []complex128{0, complex(bound*n/2, bound*n/2), 0, complex(bound*n/2, -bound*n/2)} {
		c := turn(t, l, k)
		fatalUnless(t, sameComplex(c, want), "Turn of swinging bounds, %d = %v, not %v", k, c, want)
	}
	r := source(282)
	whole := randomSamples(r, n)
	for _, k := range []int{0, 1, 2, 3, math.MaxInt} {
		checkTurn(t, whole, k)
	}
}

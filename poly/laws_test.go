package poly_test

import (
	"fmt"
	"slices"
	"testing"

	"cairn/api"
	"cairn/field"
	"cairn/poly"
)

// P2.9
func TestPolynomialsAreARing(t *testing.T) {
	everyPair(func(p, q list) {
		if !slices.Equal(poly.Plus(p, q), poly.Plus(q, p)) || !slices.Equal(poly.Times(p, q), poly.Times(q, p)) {
			t.Fatalf("the order of %v and %v", p, q)
		}
	})
	all := lists()
	for i := range 3000 {
		p, q, r := all[i%len(all)], all[i*7/3%len(all)], all[i*13/5%len(all)]
		what := fmt.Sprintf("%v, %v, %v", p, q, r)
		wantPoly(t, "the grouping of sums of "+what, poly.Plus(poly.Plus(p, q), r), poly.Plus(p, poly.Plus(q, r)))
		wantPoly(t, "the grouping of products of "+what, poly.Times(poly.Times(p, q), r), poly.Times(p, poly.Times(q, r)))
		wantPoly(t, "the spreading of "+what, poly.Times(p, poly.Plus(q, r)), poly.Plus(poly.Times(p, q), poly.Times(p, r)))
	}
}

// P2.9
func TestValuesGoAlong(t *testing.T) {
	everyPair(func(p, q list) {
		sum, product := poly.Plus(p, q), poly.Times(p, q)
		for _, x := range []field.Elem{0, 1, 2, 3, 77, 128, 142, 255} {
			a, b := poly.At(p, x), poly.At(q, x)
			if poly.At(sum, x) != a.Plus(b) || poly.At(product, x) != a.Times(b) {
				t.Fatalf("values of %v and %v at %d", p, q, x)
			}
		}
	})
}

// P2.9
func TestDegreesAndRoots(t *testing.T) {
	everyPair(func(p, q list) {
		if a, b := poly.Degree(p), poly.Degree(q); a >= 0 && b >= 0 && poly.Degree(poly.Times(p, q)) != a+b {
			t.Fatalf("the degree of %v times %v", p, q)
		}
	})
	for _, p := range lists() {
		roots := poly.Roots(p)
		if d := poly.Degree(p); d >= 0 && len(roots) > d {
			t.Errorf("%v has %d roots", p, len(roots))
		}
		for a := range 256 {
			a := field.Elem(a)
			_, rest, e := poly.Divide(p, list{a, 1})
			if e != api.OK || slices.Contains(roots, a) != (len(rest) == 0) {
				t.Fatalf("%d is a root of %v, or not: %v, %d", a, p, rest, e)
			}
		}
	}
}

// P2.10
func TestThroughGivesBack(t *testing.T) {
	for n := range 257 {
		for _, d := range []int{n - 1, n / 2, 0, -1} {
			p := exact(d, n+d)
			if d >= n {
				continue
			}
			points := allPoints()[256-n:]
			values := make(list, n)
			for i := range values {
				values[i] = poly.At(p, points[i])
			}
			back, e := poly.Through(points, values)
			if e != api.OK || !slices.Equal(back, p) {
				t.Fatalf("%d values of %v: %v, %d", n, p, back, e)
			}
			slices.Reverse(points)
			slices.Reverse(values)
			if other, _ := poly.Through(points, values); !slices.Equal(other, p) {
				t.Fatalf("%d values of %v, the other way round: %v", n, p, other)
			}
		}
	}
}

// P2.11
func TestPartialIsMadeByItsMultipliers(t *testing.T) {
	everyPair(func(p, q list) {
		for _, below := range []int{0, 1, 4, 10, 50, 200, 400} {
			g, u, v, e := poly.Partial(p, q, below)
			if e != api.OK || poly.Degree(g) >= below && below > 0 || below == 0 && len(g) != 0 {
				t.Fatalf("Partial(%v, %v, %d): %v, %d", p, q, below, g, e)
			}
			wantPoly(t, fmt.Sprintf("Partial(%v, %v, %d)", p, q, below), g, poly.Plus(poly.Times(u, p), poly.Times(v, q)))
		}
	})
}

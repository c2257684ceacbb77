package field_test

import (
	"testing"

	"cairn/api"
	"cairn/field"
)

// number is what both fields' elements have; that both are of this kind is a part of what is tested.
type number[T any] interface {
	comparable
	Plus(T) T
	Times(T) T
	Inverse() (T, bool)
	IsZero() bool
}

// P1.7
func TestBits(t *testing.T) {
	for _, c := range []struct{ a, b, plus, times field.Bit }{
		{false, false, false, false},
		{false, true, true, false},
		{true, false, true, false},
		{true, true, false, true},
	} {
		if s := c.a.Plus(c.b); s != c.plus {
			t.Errorf("%v Plus %v = %v", c.a, c.b, s)
		}
		if p := c.a.Times(c.b); p != c.times {
			t.Errorf("%v Times %v = %v", c.a, c.b, p)
		}
	}
	if v, ok := field.Bit(true).Inverse(); !bool(v) || !ok {
		t.Errorf("true Inverse = %v, %v", v, ok)
	}
	if v, ok := field.Bit(false).Inverse(); bool(v) || ok {
		t.Errorf("false Inverse = %v, %v", v, ok)
	}
	if field.Bit(true).IsZero() || !field.Bit(false).IsZero() {
		t.Error("IsZero of bits")
	}
}

// lawsOfPairs are those of a field's zero, one, opposites and inverses, and of the order of two; zero and one are the first two of all.
func lawsOfPairs[T number[T]](t *testing.T, all []T) {
	zero, one := all[0], all[1]
	for _, a := range all {
		if a.Plus(zero) != a || a.Times(one) != a || a.Times(zero) != zero || a.Plus(a) != zero {
			t.Errorf("zero, one or the opposite of %v", a)
		}
		v, ok := a.Inverse()
		if ok == a.IsZero() || ok && a.Times(v) != one || !ok && v != zero {
			t.Errorf("%v Inverse = %v, %v", a, v, ok)
		}
		for _, b := range all {
			if a.Plus(b) != b.Plus(a) || a.Times(b) != b.Times(a) {
				t.Fatalf("the order of %v and %v", a, b)
			}
			if ok && a.Times(b).Times(v) != b {
				t.Fatalf("the inverse of %v does not turn %v times it back", a, b)
			}
			if s := a.Plus(b); s.Times(s) != a.Times(a).Plus(b.Times(b)) {
				t.Fatalf("the square of the sum of %v and %v", a, b)
			}
		}
	}
}

// lawsOfTriples are those of grouping, and of products through sums.
func lawsOfTriples[T number[T]](t *testing.T, all []T) {
	for _, a := range all {
		for _, b := range all {
			sum, product := a.Plus(b), a.Times(b)
			for _, c := range all {
				if sum.Plus(c) != a.Plus(b.Plus(c)) || product.Times(c) != a.Times(b.Times(c)) {
					t.Fatalf("the grouping of %v, %v and %v", a, b, c)
				}
				if sum.Times(c) != a.Times(c).Plus(b.Times(c)) {
					t.Fatalf("the sum of %v and %v times %v", a, b, c)
				}
			}
		}
	}
}

// P1.8
func TestBothAreFields(t *testing.T) {
	bits := []field.Bit{false, true}
	lawsOfPairs(t, bits)
	lawsOfTriples(t, bits)
	var elems []field.Elem
	everyElement(func(a field.Elem) { elems = append(elems, a) })
	lawsOfPairs(t, elems)
	lawsOfTriples(t, elems)
}

// P1.8
func TestOverTurnsTimesBack(t *testing.T) {
	everyPair(func(a, b field.Elem) {
		if b == 0 {
			return
		}
		if q, e := a.Times(b).Over(b); q != a || e != api.OK {
			t.Fatalf("%d Times %d Over it = %d, %d", a, b, q, e)
		}
		if q, e := a.Over(b); q.Times(b) != a || e != api.OK {
			t.Fatalf("%d Over %d Times it = %d, %d", a, b, q.Times(b), e)
		}
	})
}

// P1.8
func TestElementsToThePower256(t *testing.T) {
	everyElement(func(a field.Elem) {
		square := a
		for range 8 {
			square = product(square, square)
		}
		if p := field.Pow(a, 256); p != a || square != a {
			t.Errorf("Pow(%d, 256) = %d; squared eight times it is %d", a, p, square)
		}
	})
}

// P1.8
func TestEveryOrderDivides255(t *testing.T) {
	for a := range 255 {
		a := field.Elem(a + 1)
		if n, e := field.Order(a); n < 1 || 255%n != 0 || e != api.OK {
			t.Errorf("Order(%d) = %d, %d", a, n, e)
		}
	}
	if n, e := field.Order(2); n != 255 || e != api.OK {
		t.Errorf("the generator's order = %d, %d", n, e)
	}
}

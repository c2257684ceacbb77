package field_test

import (
	"math"
	"math/big"
	"testing"

	"cairn/api"
	"cairn/field"
)

// coefficients are those of an element's polynomial, from that of x^0 on.
func coefficients(a field.Elem) [8]int {
	var c [8]int
	for i := range c {
		c[i] = int(a>>i) & 1
	}
	return c
}

// element is that of the coefficients of x^0 to x^7.
func element(c []int) field.Elem {
	var a field.Elem
	for i, x := range c[:8] {
		a |= field.Elem(x) << i
	}
	return a
}

// product is the remainder by the modulus of the product of two polynomials, by long division.
func product(a, b field.Elem) field.Elem {
	modulus := []int{1, 0, 1, 1, 1, 0, 0, 0, 1}
	p := make([]int, 15)
	for i, x := range coefficients(a) {
		for j, y := range coefficients(b) {
			p[i+j] = (p[i+j] + x*y) % 2
		}
	}
	for high := 14; high >= 8; high-- {
		if p[high] == 1 {
			for i, x := range modulus {
				p[high-8+i] = (p[high-8+i] + x) % 2
			}
		}
	}
	return element(p)
}

// power is the product of as many a as n is modulo 255. (An a that is not zero is one to the power 255: TestElementsToThePower256.)
func power(a field.Elem, n int) field.Elem {
	times := new(big.Int).Mod(big.NewInt(int64(n)), big.NewInt(255)).Int64()
	p := field.Elem(1)
	for range times {
		p = product(p, a)
	}
	return p
}

// exponents are those around 0, and the least and the greatest ints.
func exponents() []int {
	var l []int
	for n := -520; n <= 520; n++ {
		l = append(l, n)
	}
	for i := range 260 {
		l = append(l, math.MinInt+i, math.MaxInt-i)
	}
	return append(l, math.MinInt32, math.MaxInt32, math.MaxUint32, 65280, -65280)
}

func everyElement(do func(a field.Elem)) {
	for a := range 256 {
		do(field.Elem(a))
	}
}

func everyPair(do func(a, b field.Elem)) {
	everyElement(func(a field.Elem) {
		everyElement(func(b field.Elem) { do(a, b) })
	})
}

// P1.1
func TestPlusIsTheSumBitByBit(t *testing.T) {
	everyPair(func(a, b field.Elem) {
		c, x := coefficients(a), coefficients(b)
		for i := range c {
			c[i] = (c[i] + x[i]) % 2
		}
		if s := a.Plus(b); s != element(c[:]) {
			t.Fatalf("%d Plus %d = %d, not %d", a, b, s, element(c[:]))
		}
	})
	if s := field.Elem(83).Plus(202); s != 153 {
		t.Errorf("83 Plus 202 = %d", s)
	}
	everyElement(func(a field.Elem) {
		if s := a.Plus(a); s != 0 {
			t.Errorf("%d Plus itself = %d", a, s)
		}
	})
}

// P1.1
func TestIsZeroOfZeroAlone(t *testing.T) {
	everyElement(func(a field.Elem) {
		if a.IsZero() != (a == 0) {
			t.Errorf("%d IsZero = %v", a, a.IsZero())
		}
	})
}

// P1.2
func TestTimesIsTheProductByTheModulus(t *testing.T) {
	everyPair(func(a, b field.Elem) {
		if p := a.Times(b); p != product(a, b) {
			t.Fatalf("%d Times %d = %d, not %d", a, b, p, product(a, b))
		}
	})
	for _, c := range []struct{ a, b, want field.Elem }{{2, 128, 29}, {3, 7, 9}, {0, 9, 0}, {9, 0, 0}, {1, 255, 255}} {
		if p := c.a.Times(c.b); p != c.want {
			t.Errorf("%d Times %d = %d, not %d", c.a, c.b, p, c.want)
		}
	}
}

// P1.3
func TestOverTurnsTheProductBack(t *testing.T) {
	everyPair(func(a, b field.Elem) {
		q, e := a.Over(b)
		if b == 0 {
			if q != 0 || e != api.ErrZero {
				t.Errorf("%d Over 0 = %d, %d", a, q, e)
			}
			return
		}
		if product(q, b) != a || e != api.OK {
			t.Fatalf("%d Over %d = %d, %d", a, b, q, e)
		}
	})
	for _, c := range []struct{ a, b, want field.Elem }{{1, 2, 142}, {9, 7, 3}, {0, 5, 0}} {
		if q, e := c.a.Over(c.b); q != c.want || e != api.OK {
			t.Errorf("%d Over %d = %d, %d, not %d", c.a, c.b, q, e, c.want)
		}
	}
}

// P1.3
func TestInverseMakesOne(t *testing.T) {
	for a := range 255 {
		a := field.Elem(a + 1)
		if v, ok := a.Inverse(); product(a, v) != 1 || !ok {
			t.Errorf("%d Inverse = %d, %v", a, v, ok)
		}
	}
	if v, ok := field.Elem(0).Inverse(); v != 0 || ok {
		t.Errorf("0 Inverse = %d, %v", v, ok)
	}
	if v, ok := field.Elem(2).Inverse(); v != 142 || !ok {
		t.Errorf("2 Inverse = %d, %v", v, ok)
	}
}

// P1.4
func TestExpOfEveryInt(t *testing.T) {
	for _, n := range exponents() {
		if p := field.Exp(n); p != power(2, n) {
			t.Errorf("Exp(%d) = %d, not %d", n, p, power(2, n))
		}
	}
	for n, want := range map[int]field.Elem{0: 1, 1: 2, 7: 128, 8: 29, 254: 142, 255: 1, -1: 142, -255: 1, -256: 142} {
		if p := field.Exp(n); p != want {
			t.Errorf("Exp(%d) = %d, not %d", n, p, want)
		}
	}
	for n := range 1000 {
		if p := product(field.Exp(n), field.Exp(-n)); p != 1 {
			t.Errorf("Exp(%d) times Exp(%d) = %d", n, -n, p)
		}
	}
}

// P1.4
func TestLogTurnsExpBack(t *testing.T) {
	for n := range 255 {
		if l, e := field.Log(power(2, n)); l != n || e != api.OK {
			t.Errorf("Log(%d) = %d, %d, not %d", power(2, n), l, e, n)
		}
	}
	for a := range 255 {
		a := field.Elem(a + 1)
		if n, e := field.Log(a); n < 0 || n > 254 || power(2, n) != a || e != api.OK {
			t.Errorf("Log(%d) = %d, %d", a, n, e)
		}
	}
	if n, e := field.Log(0); n != 0 || e != api.ErrZero {
		t.Errorf("Log(0) = %d, %d", n, e)
	}
}

// P1.5
func TestPowIsTheProductOfThatMany(t *testing.T) {
	everyElement(func(a field.Elem) {
		p := field.Elem(1)
		for n := range 600 {
			if got := field.Pow(a, n); got != p {
				t.Fatalf("Pow(%d, %d) = %d, not %d", a, n, got, p)
			}
			if back := field.Pow(a, -n); a != 0 && product(back, p) != 1 {
				t.Fatalf("Pow(%d, %d) = %d, no inverse of %d", a, -n, back, p)
			}
			p = product(p, a)
		}
	})
	for _, c := range []struct {
		a    field.Elem
		n    int
		want field.Elem
	}{{2, 9, 58}, {3, 256, 3}, {1, -7, 1}, {2, -1, 142}} {
		if p := field.Pow(c.a, c.n); p != c.want {
			t.Errorf("Pow(%d, %d) = %d, not %d", c.a, c.n, p, c.want)
		}
	}
}

// P1.5
func TestPowOfEveryInt(t *testing.T) {
	for _, a := range []field.Elem{1, 2, 3, 29, 142, 214, 254, 255} {
		for _, n := range exponents() {
			if p := field.Pow(a, n); p != power(a, n) {
				t.Fatalf("Pow(%d, %d) = %d, not %d", a, n, p, power(a, n))
			}
		}
	}
}

// P1.5
func TestPowOfZero(t *testing.T) {
	if p := field.Pow(0, 0); p != 1 {
		t.Errorf("Pow(0, 0) = %d", p)
	}
	for _, n := range exponents() {
		if p := field.Pow(0, n); n != 0 && p != 0 {
			t.Errorf("Pow(0, %d) = %d", n, p)
		}
	}
}

// P1.5
func TestOrderIsTheLeastPowerThatIsOne(t *testing.T) {
	for a := range 255 {
		a := field.Elem(a + 1)
		least := 1
		for p := a; p != 1; p = product(p, a) {
			least++
		}
		if n, e := field.Order(a); n != least || e != api.OK {
			t.Errorf("Order(%d) = %d, %d, not %d", a, n, e, least)
		}
	}
	for a, want := range map[field.Elem]int{1: 1, 2: 255, 214: 3} {
		if n, e := field.Order(a); n != want || e != api.OK {
			t.Errorf("Order(%d) = %d, %d, not %d", a, n, e, want)
		}
	}
	if n, e := field.Order(0); n != 0 || e != api.ErrZero {
		t.Errorf("Order(0) = %d, %d", n, e)
	}
}

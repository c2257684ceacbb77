package poly

import (
	"cairn/api"
	"cairn/field"
)

// Times is the product. (P2.2)
func Times(p, q []field.Elem) []field.Elem {
	p, q = cut(p), cut(q)
	if len(p) == 0 || len(q) == 0 {
		return nil
	}
	if len(p) > len(q) {
		p, q = q, p // each of p's coefficients costs a table of its multiples
	}
	product := make([]field.Elem, len(p)+len(q)-1)
	for power := range len(p) {
		add(product[power:], q, p[power])
	}
	return product
}

// Divide is the quotient of p by q, and the rest; ErrZero, if q is the zero polynomial. (P2.3)
func Divide(p, q []field.Elem) ([]field.Elem, []field.Elem, api.Errno) {
	q = cut(q)
	if len(q) == 0 {
		return nil, nil, api.ErrZero
	}
	high := len(q) - 1
	inverse, _ := q[high].Inverse()
	rest := Trim(p)
	quotient := make([]field.Elem, max(len(rest)-high, 0))
	for i := range len(quotient) {
		power := len(quotient) - 1 - i
		quotient[power] = rest[power+high].Times(inverse)
		add(rest[power:], q, quotient[power])
	}
	return quotient, cut(rest), api.OK
}

// Vanish is the product of x plus each point. (P2.5)
func Vanish(points []field.Elem) []field.Elem {
	n := len(points)
	product := make([]field.Elem, n+1)
	product[n] = 1
	for i, a := range points {
		// What stands behind low is the product so far; from low on, so moved up by a power, it is that times x. Each sum needs the coefficient behind it as it was, and add goes upwards.
		low := n - 1 - i
		add(product[low:], product[low+1:], a)
	}
	return product
}

// add adds c times p to sum, which is no shorter than p.
func add(sum, p []field.Elem, c field.Elem) {
	if c.IsZero() {
		return
	}
	times := multiplesOf(c)
	for power := range len(p) {
		sum[power] = sum[power].Plus(times.of(p[power]))
	}
}

// multiples are one element's products with each element below 16, and with 16 times each of these: out of the two every product of it is a sum, which is faster than products one by one.
type multiples struct {
	low, high [16]field.Elem
}

func multiplesOf(c field.Elem) multiples {
	var m multiples
	for bit := range 4 {
		count := 1 << bit
		low, high := c.Times(field.Elem(count)), c.Times(field.Elem(count*16))
		for i := range count {
			m.low[count+i] = m.low[i].Plus(low)
			m.high[count+i] = m.high[i].Plus(high)
		}
	}
	return m
}

// of is the product with a.
func (m *multiples) of(a field.Elem) field.Elem {
	return m.low[a%16].Plus(m.high[a/16])
}

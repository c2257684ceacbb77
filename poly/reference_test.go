package poly_test

import (
	"slices"
	"testing"

	"cairn/field"
)

type list = []field.Elem

// some is a list of n coefficients that look like any, zeros among them, others for another seed.
func some(n, seed int) list {
	l := make(list, n)
	x := uint32(seed)*2654435761 + 12345
	for i := range l {
		x = x*1664525 + 1013904223
		l[i] = field.Elem(x >> 24)
		if x>>20&7 == 0 {
			l[i] = 0
		}
	}
	return l
}

// exact is some list of just that degree.
func exact(degree, seed int) list {
	l := some(degree+1, seed)
	if degree >= 0 {
		l[degree] |= 1
	}
	return l
}

// lists are those of many lengths: without coefficients, of zeros, with zeros at their end or within, long ones.
func lists() []list {
	all := []list{
		nil, {}, {0}, {0, 0, 0}, {1}, {7}, {255}, {0, 1}, {1, 0}, {5, 0, 0}, {0, 0, 1}, {1, 1}, {2, 1}, {3, 1, 0, 0},
		{6, 1, 1}, {0, 6, 1, 1}, {0, 0, 29, 0, 142, 0, 0, 0}, make(list, 300), append(some(20, 1), make(list, 300)...),
	}
	for n := range 20 {
		all = append(all, exact(n, n+1))
	}
	return append(all, exact(63, 1), some(100, 2), exact(255, 3), exact(256, 4), exact(300, 5))
}

// everyPair hands in all pairs of lists.
func everyPair(do func(p, q list)) {
	for _, p := range lists() {
		for _, q := range lists() {
			do(p, q)
		}
	}
}

// plain takes the zeros at the end away.
func plain(p list) list {
	for len(p) > 0 && p[len(p)-1] == 0 {
		p = p[:len(p)-1]
	}
	return p
}

func degree(p list) int { return len(plain(p)) - 1 }

func trimmed(p list) bool { return len(p) == 0 || p[len(p)-1] != 0 }

func same(p, q list) bool { return slices.Equal(plain(p), plain(q)) }

// value is the sum of the products with the powers, term by term.
func value(p list, x field.Elem) field.Elem {
	var sum field.Elem
	power := field.Elem(1)
	for _, c := range p {
		sum = sum.Plus(c.Times(power))
		power = power.Times(x)
	}
	return sum
}

func plus(p, q list) list {
	sum := make(list, max(len(p), len(q)))
	for i := range sum {
		if i < len(p) {
			sum[i] ^= p[i]
		}
		if i < len(q) {
			sum[i] ^= q[i]
		}
	}
	return plain(sum)
}

func times(p, q list) list {
	product := make(list, len(p)+len(q))
	for a := range p {
		for b := range q {
			product[a+b] ^= p[a].Times(q[b])
		}
	}
	return plain(product)
}

// divide takes multiples of q from p's top as long as there are any.
func divide(p, q list) (quotient, rest list) {
	q, rest = plain(q), plain(p)
	for degree(rest) >= degree(q) {
		c, _ := rest[len(rest)-1].Over(q[len(q)-1])
		part := make(list, degree(rest)-degree(q)+1)
		part[len(part)-1] = c
		quotient, rest = plus(quotient, part), plus(rest, times(part, q))
	}
	return quotient, rest
}

// wantPoly holds an answer against a polynomial; answers are trimmed.
func wantPoly(t *testing.T, what string, got, want list) {
	t.Helper()
	if !trimmed(got) || !same(got, want) {
		t.Fatalf("%s = %v, not %v", what, got, plain(want))
	}
}

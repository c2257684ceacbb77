package poly

import (
	"cairn/api"
	"cairn/field"
)

// term is one of Euclid's row: g = u times p plus v times q.
type term struct {
	g, u, v []field.Elem
}

// Partial is the first of Euclid's row of p and q whose degree is below that number, and its multipliers; ErrArg, if the number is below 0. (P2.8)
func Partial(p, q []field.Elem, below int) ([]field.Elem, []field.Elem, []field.Elem, api.Errno) {
	if below < 0 {
		return nil, nil, nil, api.ErrArg
	}
	ahead := term{g: Trim(p), u: []field.Elem{1}}
	if Degree(ahead.g) < below {
		return ahead.g, ahead.u, ahead.v, api.OK
	}
	last := term{g: Trim(q), v: []field.Elem{1}}
	for Degree(last.g) >= below {
		ahead, last = last, ahead.after(last)
	}
	return last.g, last.u, last.v, api.OK
}

// after is what follows in the row upon t and the last one, which is not zero.
func (t term) after(last term) term {
	quotient, rest, _ := Divide(t.g, last.g)
	return term{
		g: rest,
		u: Plus(t.u, Times(quotient, last.u)),
		v: Plus(t.v, Times(quotient, last.v)),
	}
}

package poly

import (
	"cairn/api"
	"cairn/field"
)

// elements is how many the field has.
const elements = 256

// Through is the polynomial of a degree below the number of points that has these values there; ErrArg, if the lists are not of one length; ErrSame, if two points are the same. (P2.6)
func Through(points, values []field.Elem) ([]field.Elem, api.Errno) {
	if len(points) != len(values) {
		return nil, api.ErrArg
	}
	if twice(points) {
		return nil, api.ErrSame
	}
	through := make([]field.Elem, len(points))
	vanish := []field.Elem{1}
	for i, a := range points {
		// A multiple of what vanishes at the points so far leaves the values there as they are.
		missing := values[i].Plus(At(through[:i], a))
		c, _ := missing.Over(At(vanish, a))
		add(through, vanish, c)
		vanish = Times(vanish, []field.Elem{a, 1})
	}
	return cut(through), api.OK
}

// twice tells whether a point stands there more than once.
func twice(points []field.Elem) bool {
	var seen [elements]bool
	for _, a := range points {
		if seen[a] {
			return true
		}
		seen[a] = true
	}
	return false
}

// Roots are the elements at which the value is zero, rising. (P2.7)
func Roots(p []field.Elem) []field.Elem {
	short := fold(p)
	var roots []field.Elem
	for x := range elements {
		if At(short, field.Elem(x)).IsZero() {
			roots = append(roots, field.Elem(x))
		}
	}
	return roots
}

// fold has p's values at all elements, but no more than 256 coefficients, so that a long p is gone through once, not once for each element: every element to the power 256 is itself.
func fold(p []field.Elem) []field.Elem {
	short := make([]field.Elem, min(len(p), elements))
	for power := range len(p) {
		low := power
		if power >= elements {
			low = (power-1)%(elements-1) + 1
		}
		short[low] = short[low].Plus(p[power])
	}
	return short
}

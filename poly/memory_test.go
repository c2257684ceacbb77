package poly_test

import (
	"slices"
	"testing"

	"cairn/field"
	"cairn/poly"
)

// calls are all that answer lists; each is handed its own p and q.
func calls() map[string]func(p, q list) []list {
	return map[string]func(p, q list) []list{
		"Trim":     func(p, q list) []list { return []list{poly.Trim(p)} },
		"Plus":     func(p, q list) []list { return []list{poly.Plus(p, q)} },
		"Plus 0":   func(p, q list) []list { return []list{poly.Plus(p, nil), poly.Plus(nil, q)} },
		"Scale":    func(p, q list) []list { return []list{poly.Scale(p, 1), poly.Scale(p, 0), poly.Scale(p, 7)} },
		"Times":    func(p, q list) []list { return []list{poly.Times(p, q)} },
		"Times 1":  func(p, q list) []list { return []list{poly.Times(p, list{1}), poly.Times(list{1}, q)} },
		"Divide":   func(p, q list) []list { return pair(poly.Divide(p, q)) },
		"Divide 1": func(p, q list) []list { return pair(poly.Divide(p, list{1})) },
		"Divide x": func(p, q list) []list { return pair(poly.Divide(p, make(list, 400))) },
		"Derive":   func(p, q list) []list { return []list{poly.Derive(p)} },
		"Vanish":   func(p, q list) []list { return []list{poly.Vanish(p)} },
		"Through":  func(p, q list) []list { return single(poly.Through(p, q)) },
		"Through all": func(p, q list) []list {
			return single(poly.Through(allPoints()[:min(len(p), 256)], p[:min(len(p), 256)]))
		},
		"Through at": func(p, q list) []list { return single(poly.Through(p, make(list, len(p)))) },
		"Roots":      func(p, q list) []list { return []list{poly.Roots(p)} },
		"Partial":    func(p, q list) []list { return triple(poly.Partial(p, q, 3)) },
		"Partial p":  func(p, q list) []list { return triple(poly.Partial(p, q, 1000)) },
		"Partial q":  func(p, q list) []list { return triple(poly.Partial(p, q, poly.Degree(q)+1)) },
		"Partial 0":  func(p, q list) []list { return triple(poly.Partial(p, q, 0)) },
		"Partial -1": func(p, q list) []list { return triple(poly.Partial(p, q, -1)) },
		"Degree":     func(p, q list) []list { poly.Degree(p); return nil },
		"At":         func(p, q list) []list { poly.At(p, 9); return nil },
	}
}

func single[E any](a list, _ E) []list       { return []list{a} }
func pair[E any](a, b list, _ E) []list      { return []list{a, b} }
func triple[E any](a, b, c list, _ E) []list { return []list{a, b, c} }

// roomy is a list with its owner's elements behind it, and that whole.
func roomy(p list, seed int) (l, whole list) {
	whole = append(slices.Clone(p), some(9, seed)...)
	return whole[:len(p)], whole
}

// fill overwrites a list and the room behind it.
func fill(p list, with field.Elem) {
	p = p[:cap(p)]
	for i := range p {
		p[i] = with
	}
}

func copies(all []list) []list {
	var out []list
	for _, l := range all {
		out = append(out, slices.Clone(l))
	}
	return out
}

func equal(a, b []list) bool {
	return slices.EqualFunc(a, b, func(x, y list) bool { return slices.Equal(x, y) })
}

// P2.12
func TestListsHandedInStayAsTheyWere(t *testing.T) {
	for name, call := range calls() {
		everyPair(func(p, q list) {
			a, wholeA := roomy(p, 1)
			b, wholeB := roomy(q, 2)
			beforeA, beforeB := slices.Clone(wholeA), slices.Clone(wholeB)
			for _, answer := range call(a, b) {
				fill(answer, 170)
			}
			if !slices.Equal(wholeA, beforeA) || !slices.Equal(wholeB, beforeB) {
				t.Fatalf("%s of %v and %v changed them, or answered their memory", name, p, q)
			}
		})
	}
}

// P2.12
func TestAnswersAreNewMemory(t *testing.T) {
	for name, call := range calls() {
		everyPair(func(p, q list) {
			a, _ := roomy(p, 1)
			b, _ := roomy(q, 2)
			first, second := call(a, b), call(a, b)
			kept := copies(second)
			fill(a, 85)
			fill(b, 85)
			if !equal(second, kept) {
				t.Fatalf("%s of %v and %v hangs on its arguments", name, p, q)
			}
			for i := range first {
				fill(first[i], 170)
				if !equal(first[i+1:], kept[i+1:]) {
					t.Fatalf("%s of %v and %v: two lists of one answer share memory", name, p, q)
				}
			}
			for i := range first {
				fill(first[len(first)-1-i], field.Elem(i))
			}
			for i := range first {
				if l := first[i][:cap(first[i])]; len(l) > 0 && slices.ContainsFunc(l, func(x field.Elem) bool { return x != field.Elem(len(first)-1-i) }) {
					t.Fatalf("%s of %v and %v: two lists of one answer share room", name, p, q)
				}
			}
			if !equal(second, kept) {
				t.Fatalf("%s of %v and %v: two answers share memory", name, p, q)
			}
		})
	}
}

// P2.12: one list handed in twice.
func TestOneListInBothPlaces(t *testing.T) {
	for _, p := range lists() {
		l, whole := roomy(p, 1)
		before := slices.Clone(whole)
		wantPoly(t, "the sum", poly.Plus(l, l), nil)
		wantPoly(t, "the product", poly.Times(l, l), times(p, p))
		s, r, _ := poly.Divide(l, l)
		if degree(p) >= 0 {
			wantPoly(t, "the quotient", s, list{1})
		}
		wantPoly(t, "the rest", r, nil)
		poly.Through(l, l)
		g, u, v, _ := poly.Partial(l, l, 0)
		wantPoly(t, "what is made", plus(times(u, p), times(v, p)), g)
		if !slices.Equal(whole, before) {
			t.Fatalf("%v was changed", p)
		}
	}
}

// P2.12: long lists end, too, in a time that is bearable.
func TestLongListsEnd(t *testing.T) {
	p, q := exact(5000, 1), exact(4000, 2)
	s, r, _ := poly.Divide(p, q)
	wantPoly(t, "s q + r", poly.Plus(poly.Times(s, q), r), p)
	g, u, v, _ := poly.Partial(p, q, 10)
	wantPoly(t, "u p + v q", poly.Plus(poly.Times(u, p), poly.Times(v, q)), g)
	if d := poly.Degree(poly.Vanish(p)); d != len(p) {
		t.Errorf("Vanish has the degree %d", d)
	}
	if roots := poly.Roots(poly.Times(exact(100000, 3), list{29, 1})); !slices.Contains(roots, 29) {
		t.Errorf("Roots: %v", roots)
	}
}

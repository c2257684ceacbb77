package mend

import (
	"slices"

	"cairn/field"
	"cairn/poly"
)

// search looks for the code words that are near words which have all lost the same places.
type search struct {
	k      int
	radius int          // how many wrong values a word may have; below 0, if too few places are left
	lost   []bool       // of each place
	places []int        // those that are not lost, the least often wrong ones first
	often  []int        // of each place, how many words were wrong there
	points []field.Elem // those of the places that are not lost, rising
	vanish []field.Elem // the polynomial that is zero at them
}

// searchFor is the search of words for k with these places lost.
func searchFor(k int, lost []bool) *search {
	s := &search{k: k, lost: lost, often: make([]int, len(lost))}
	for i := range lost {
		if !lost[i] {
			s.places = append(s.places, i)
			s.points = append(s.points, field.Elem(i))
		}
	}
	s.radius = Radius(len(lost), k, len(lost)-len(s.places))
	s.vanish = poly.Vanish(s.points)
	return s
}

// guess is the polynomial through the values at the k places that were wrong least often: where these are right, it is the one.
func (s *search) guess(word []field.Elem) []field.Elem {
	var points []field.Elem
	for _, i := range s.places[:s.k] {
		points = append(points, field.Elem(i))
	}
	p, _ := poly.Through(points, valuesAt(word, points))
	return p
}

// euclid is the polynomial of the near code word, if there is one: Euclid's algorithm is ended where its multiplier v has as many zeros as there may be wrong places, and then v is zero at those, and g is v times the one that is sought.
func (s *search) euclid(word []field.Elem) []field.Elem {
	through, _ := poly.Through(s.points, valuesAt(word, s.points))
	g, _, v, _ := poly.Partial(s.vanish, through, len(s.points)-s.radius)
	p, _, _ := poly.Divide(g, v)
	return p
}

// judge is the values of p at all places, and the places at which the word is wrong, if these values are a code word that is near.
func (s *search) judge(p, word []field.Elem) ([]field.Elem, []int, bool) {
	if poly.Degree(p) >= s.k {
		return nil, nil, false
	}
	values := make([]field.Elem, len(word))
	var wrong []int
	for i := range values {
		values[i] = poly.At(p, field.Elem(i))
		if !s.lost[i] && values[i] != word[i] {
			wrong = append(wrong, i)
		}
	}
	if len(wrong) > s.radius {
		return nil, nil, false
	}
	return values, wrong, true
}

// doubt takes down that a word was wrong at these places. A row that is wrong at one column is often so at the next: the guess is then made without it.
func (s *search) doubt(wrong []int) {
	if len(wrong) == 0 {
		return
	}
	for _, i := range wrong {
		s.often[i]++
	}
	slices.SortStableFunc(s.places, func(a, b int) int { return s.often[a] - s.often[b] })
}

// doubted is the places at which some word was wrong, rising.
func (s *search) doubted() []int {
	var places []int
	for i, often := range s.often {
		if often > 0 {
			places = append(places, i)
		}
	}
	return places
}

// valuesAt is the word's values at these points.
func valuesAt(word, points []field.Elem) []field.Elem {
	values := make([]field.Elem, len(points))
	for i, x := range points {
		values[i] = word[x]
	}
	return values
}

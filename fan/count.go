package fan

import "slices"

// Count is how many elements of the list are x. (P16.3)
func Count[T comparable](l []T, x T) int {
	n := 0
	for _, y := range l {
		if same(x, y) {
			n++
		}
	}
	return n
}

// Most is the first element of the list that is there as often as any, and how often. (P16.3)
func Most[T comparable](l []T) (T, int) {
	var element T
	most := 0
	counts := map[T]int{}
	// From the end on, an element is counted whole where it stands first, and of those that are there as often the first comes last.
	for _, x := range slices.Backward(l) {
		if n := countOneMore(counts, x); n >= most {
			element, most = x, n
		}
	}
	return element, most
}

// same tells whether two are the same by ==.
func same[T comparable](x, y T) (is bool) {
	// Interfaces may hold what == can't compare: there Go panics, and the two are not the same.
	defer func() { recover() }()
	return x == y
}

// countOneMore counts x, and tells how often it was met: never, if it is not even itself by ==, as a NaN, or can't be compared.
func countOneMore[T comparable](counts map[T]int, x T) (n int) {
	defer func() { recover() }()
	counts[x]++
	return counts[x]
}

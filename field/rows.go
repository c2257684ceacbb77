package field

import "cairn/api"

// Scale is the row with each element times c. (P1.6)
func Scale(row []byte, c Elem) []byte {
	low, high := multiples(c), multiples(c.Times(16))
	scaled := make([]byte, len(row))
	for i := range len(row) {
		scaled[i] = byte(low[row[i]&15].Plus(high[row[i]>>4]))
	}
	return scaled
}

// multiples are c times each element below 16. With these and those of 16 times c a long row needs two look-ups and a sum for each of its products; more of them would not pay off in short rows.
func multiples(c Elem) [16]Elem {
	var table [16]Elem
	for i := range len(table) / 2 {
		even := table[i].double()
		table[2*i], table[2*i+1] = even, even.Plus(c)
	}
	return table
}

// Sum is the sums of the rows' elements, place by place; ErrUneven, if the rows are of unlike lengths. (P1.6)
func Sum(a, b []byte) ([]byte, api.Errno) {
	if len(a) != len(b) {
		return nil, api.ErrUneven
	}
	sum := make([]byte, len(a))
	for i := range len(a) {
		sum[i] = byte(Elem(a[i]).Plus(Elem(b[i])))
	}
	return sum, api.OK
}

// Dot is the sum of the products of the rows' elements, place by place; ErrUneven, if the rows are of unlike lengths. (P1.6)
func Dot(a, b []byte) (Elem, api.Errno) {
	if len(a) != len(b) {
		return 0, api.ErrUneven
	}
	var sum Elem
	for i := range len(a) {
		sum = sum.Plus(Elem(a[i]).Times(Elem(b[i])))
	}
	return sum, api.OK
}

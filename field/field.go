// Package field is layer 1: the field of 256 elements, and the field of two beside it: see shared/doc/01-field.md.
package field

import "cairn/api"

const (
	modulus = 285 // x^8 + x^4 + x^3 + x^2 + 1
	units   = 255 // how many elements are not zero

	one Elem = 1
)

// orders are those that an element can have: the divisors of units, rising.
var orders = [8]int{1, 3, 5, 15, 17, 51, 85, 255}

// Elem is an element of the field of 256: its bit i is the coefficient of x^i.
type Elem byte

// Plus is the sum. (P1.1)
func (a Elem) Plus(b Elem) Elem { return a ^ b }

// IsZero tells whether it is zero. (P1.1)
func (a Elem) IsZero() bool { return a == 0 }

// double is the product with x. A mask in place of a branch: whether a's highest bit is set can't be foreseen, and wrong guesses cost more than the sum.
func (a Elem) double() Elem {
	const rest Elem = modulus & 255
	return a<<1 ^ rest&-(a>>7)
}

// Times is the product. (P1.2)
func (a Elem) Times(b Elem) Elem {
	var product Elem
	for range 8 {
		product ^= a & -(b & 1)
		a, b = a.double(), b>>1
	}
	return product
}

// Over is the element whose product with b is a; ErrZero, if b is zero. (P1.3)
func (a Elem) Over(b Elem) (Elem, api.Errno) {
	inverse, ok := b.Inverse()
	if !ok {
		return 0, api.ErrZero
	}
	return a.Times(inverse), api.OK
}

// Inverse is the element whose product with a is one; false, if a is zero. (P1.3)
func (a Elem) Inverse() (Elem, bool) {
	if a.IsZero() {
		return 0, false
	}
	return Pow(a, -1), true
}

// Exp is the generator to the power n, for every int. (P1.4)
func Exp(n int) Elem {
	table := powers()
	return table[residue(n)]
}

// Log is the n from 0 to 254 with Exp(n) = a; ErrZero, if a is zero. (P1.4)
func Log(a Elem) (int, api.Errno) {
	table := powers()
	for n, power := range &table {
		if power == a {
			return n, api.OK
		}
	}
	return 0, api.ErrZero // zero alone is no power of the generator
}

// Pow is a to the power n, for every int; to the power 0 it is one, of zero too. (P1.5)
func Pow(a Elem, n int) Elem {
	if n == 0 {
		return one
	}
	log, err := Log(a)
	if err != api.OK {
		return 0
	}
	return Exp(log * residue(n)) // both are below 255, so that no product is too great for an int
}

// Order is the least n above 0 with Pow(a, n) = one; ErrZero, if a is zero. (P1.5)
func Order(a Elem) (int, api.Errno) {
	for _, n := range orders {
		if Pow(a, n) == one {
			return n, api.OK
		}
	}
	return 0, api.ErrZero // every element but zero is one to the power units
}

// residue is n modulo units, from 0 on, for n below 0 too.
func residue(n int) int {
	return (n%units + units) % units
}

// powers are those of the generator, from the power 0 on. They are written out because logarithms, and so inverses, are looked for among them each time.
func powers() [units]Elem {
	return [units]Elem{
		1, 2, 4, 8, 16, 32, 64, 128, 29, 58, 116, 232, 205, 135, 19,
		38, 76, 152, 45, 90, 180, 117, 234, 201, 143, 3, 6, 12, 24, 48,
		96, 192, 157, 39, 78, 156, 37, 74, 148, 53, 106, 212, 181, 119, 238,
		193, 159, 35, 70, 140, 5, 10, 20, 40, 80, 160, 93, 186, 105, 210,
		185, 111, 222, 161, 95, 190, 97, 194, 153, 47, 94, 188, 101, 202, 137,
		15, 30, 60, 120, 240, 253, 231, 211, 187, 107, 214, 177, 127, 254, 225,
		223, 163, 91, 182, 113, 226, 217, 175, 67, 134, 17, 34, 68, 136, 13,
		26, 52, 104, 208, 189, 103, 206, 129, 31, 62, 124, 248, 237, 199, 147,
		59, 118, 236, 197, 151, 51, 102, 204, 133, 23, 46, 92, 184, 109, 218,
		169, 79, 158, 33, 66, 132, 21, 42, 84, 168, 77, 154, 41, 82, 164,
		85, 170, 73, 146, 57, 114, 228, 213, 183, 115, 230, 209, 191, 99, 198,
		145, 63, 126, 252, 229, 215, 179, 123, 246, 241, 255, 227, 219, 171, 75,
		150, 49, 98, 196, 149, 55, 110, 220, 165, 87, 174, 65, 130, 25, 50,
		100, 200, 141, 7, 14, 28, 56, 112, 224, 221, 167, 83, 166, 81, 162,
		89, 178, 121, 242, 249, 239, 195, 155, 43, 86, 172, 69, 138, 9, 18,
		36, 72, 144, 61, 122, 244, 245, 247, 243, 251, 235, 203, 139, 11, 22,
		44, 88, 176, 125, 250, 233, 207, 131, 27, 54, 108, 216, 173, 71, 142,
	}
}

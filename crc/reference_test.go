package crc_test

import (
	"math/bits"
	"math/rand"
	"slices"

	"cairn/crc"
)

// period is how many zero bytes leave every register as it is.
const period = 1<<31 - 1

// walk is the register that goes over the bytes bit by bit, in the chapter's own words.
func walk(register uint32, b []byte) uint32 {
	for _, x := range b {
		register ^= uint32(x)
		for range 8 {
			fell := register % 2
			register /= 2
			if fell == 1 {
				register ^= 0x82F63B78
			}
		}
	}
	return register
}

// polynomial is Castagnoli's, from x^32 down to x^0: the order in which the register meets bits.
const polynomial = "100011110110111000110111101000001"

// bitsOf are the bits of some bytes in order.
func bitsOf(b []byte) []bool {
	l := make([]bool, 8*len(b))
	for i := range l {
		l[i] = b[i/8]>>(i%8)&1 == 1
	}
	return l
}

// bytesOf are the bytes with those bits in order; zeros fill up the last one.
func bytesOf(l []bool) []byte {
	b := make([]byte, (len(l)+7)/8)
	for i, x := range l {
		if x {
			b[i/8] |= 1 << (i % 8)
		}
	}
	return b
}

// divides tells by long division whether the polynomial divides the one whose coefficients are the pattern's bits in order.
func divides(pattern []byte) bool {
	rest := bitsOf(pattern)
	for at := range max(0, len(rest)-len(polynomial)+1) {
		if rest[at] {
			add(rest, at)
		}
	}
	return !slices.Contains(rest, true)
}

// add puts the polynomial onto the bits from that place on.
func add(l []bool, at int) {
	for i, c := range polynomial {
		l[at+i] = l[at+i] != (c == '1')
	}
}

// multiple is the polynomial's product with the one of those coefficients, behind some zero bits.
func multiple(factor []bool, zeros int) []byte {
	product := make([]bool, zeros+len(factor)+len(polynomial)-1)
	for i, c := range factor {
		if c {
			add(product, zeros+i)
		}
	}
	return bytesOf(product)
}

// product is that of two polynomials below x^32 modulo Castagnoli's; the coefficient of x^i is the bit i.
func product(a, b uint32) uint32 {
	var p uint32
	for i := 31; i >= 0; i-- {
		high := p>>31 == 1
		p <<= 1
		if high {
			p ^= 0x1EDC6F41
		}
		if b>>i&1 == 1 {
			p ^= a
		}
	}
	return p
}

// afterZeros is the register, as a polynomial, times x to the power 8 n: what it is behind n zero bytes.
func afterZeros(register uint32, n int) uint32 {
	p, power := bits.Reverse32(register), uint32(1<<8)
	for ; n > 0; n /= 2 {
		if n%2 == 1 {
			p = product(p, power)
		}
		power = product(power, power)
	}
	return bits.Reverse32(p)
}

func source(seed int64) *rand.Rand { return rand.New(rand.NewSource(seed)) }

func someBytes(r *rand.Rand, n int) []byte {
	b := make([]byte, n)
	r.Read(b)
	return b
}

func someBits(r *rand.Rand, n int) []bool {
	return bitsOf(someBytes(r, (n+7)/8))[:n]
}

// ones is a pattern of n bytes with ones at those bits, in order, alone.
func ones(n int, at ...int) []byte {
	b := make([]byte, n)
	for _, i := range at {
		b[i/8] |= 1 << (i % 8)
	}
	return b
}

// onesIn is how many ones there are.
func onesIn(b []byte) int {
	n := 0
	for _, x := range b {
		n += bits.OnesCount8(x)
	}
	return n
}

// both is what two texts of one length make by exclusive or.
func both(a, b []byte) []byte {
	c := slices.Clone(a)
	for i, x := range b {
		c[i] ^= x
	}
	return c
}

// unlike is by how much the pattern turns the sum of as many zeros.
func unlike(pattern []byte) uint32 {
	return crc.Sum(pattern) ^ crc.Sum(make([]byte, len(pattern)))
}

// someSums are 0, all ones, each bit alone, and others.
func someSums() []uint32 {
	l := []uint32{0, 1<<32 - 1, 0x82F63B78, 0xE3069283, 5, 7, 9}
	for i := range 32 {
		l = append(l, 1<<i)
	}
	r := source(60)
	for range 20 {
		l = append(l, r.Uint32())
	}
	return l
}

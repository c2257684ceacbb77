package matrix_test

import (
	"cairn/field"
	"cairn/matrix"
)

// loose is the field of four. Each number can be written in many ways, and no sum or product is written as the one ahead of it: only IsZero of a sum tells whether two are the same.
type loose struct {
	value uint8 // 0, 1, x, x + 1
	trace int   // says nothing
}

func (a loose) Plus(b loose) loose { return loose{a.value ^ b.value, a.trace + b.trace + 1} }

func (a loose) Times(b loose) loose {
	product := a.value * (b.value & 1)
	if b.value&2 != 0 {
		product ^= a.value << 1
	}
	if product&4 != 0 {
		product ^= 7
	}
	return loose{product, a.trace + b.trace + 3}
}

func (a loose) Inverse() (loose, bool) {
	if a.value == 0 {
		return loose{0, a.trace}, false
	}
	return loose{[]uint8{0, 1, 3, 2}[a.value], a.trace - 1}, true
}

func (a loose) IsZero() bool { return a.value == 0 }

// far is a field of 65536 elements, held by pointers; nil is its zero, and so is a pointer to 0.
type far struct{ value uint32 }

type farNumber = *far

func (a *far) bits() uint32 {
	if a == nil {
		return 0
	}
	return a.value
}

func (a *far) Plus(b *far) *far { return &far{a.bits() ^ b.bits()} }

func (a *far) Times(b *far) *far {
	var product uint32
	for bit := 15; bit >= 0; bit-- {
		product <<= 1
		if product>>16 != 0 {
			product ^= 0x1100b
		}
		if b.bits()>>bit&1 != 0 {
			product ^= a.bits()
		}
	}
	return &far{product}
}

func (a *far) Inverse() (*far, bool) {
	if a.IsZero() {
		return nil, false
	}
	power := &far{1}
	for range 15 { // to the power 65534, which is 2 + 4 + .. + 32768
		a = a.Times(a)
		power = power.Times(a)
	}
	return power, true
}

func (a *far) IsZero() bool { return a.bits() == 0 }

// kind is a type of numbers, as the tests need it: its one, and how to write the number of a seed (0 is zero, and all numbers have seeds).
type kind[T matrix.Number[T]] struct {
	name string
	one  T
	of   func(seed int) T
}

func elems() kind[field.Elem] {
	return kind[field.Elem]{"Elem", 1, func(seed int) field.Elem { return field.Elem(seed) }}
}

func bits() kind[field.Bit] {
	return kind[field.Bit]{"Bit", true, func(seed int) field.Bit { return seed&1 == 1 }}
}

func looses() kind[loose] {
	return kind[loose]{"loose", loose{1, 17}, func(seed int) loose { return loose{uint8(seed & 3), seed >> 2} }}
}

func fars() kind[farNumber] {
	return kind[farNumber]{"far", &far{1}, func(seed int) farNumber {
		if seed == 0 {
			return nil
		}
		return &far{uint32(seed & 65535)}
	}}
}

// draw is numbers that look drawn by lot, the same ones each time.
type draw uint32

func (d *draw) next(below int) int {
	*d = *d*1664525 + 1013904223
	return int(uint64(*d) * uint64(below) >> 32)
}

// some is a matrix that looks drawn by lot; of each 8 numbers some zeros of them are zero on top.
func (k kind[T]) some(rows, cols, zeros, seed int) [][]T {
	d := draw(seed*7919 + rows*257 + cols)
	a := make([][]T, rows)
	for i := range a {
		a[i] = make([]T, cols)
		for j := range a[i] {
			if d.next(8) >= zeros {
				a[i][j] = k.of(d.next(65536))
			}
		}
	}
	return a
}

// list is one row of such numbers.
func (k kind[T]) list(n, seed int) []T {
	return k.some(1, n, 1, seed)[0]
}

// unlike is n points no two of which are the same (n is at most the number of the field's elements).
func (k kind[T]) unlike(n int) []T {
	var points []T
	for seed := 0; len(points) < n; seed++ {
		points = append(points, k.of(seed))
	}
	return points
}

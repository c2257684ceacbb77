package field_test

import (
	"bytes"
	"testing"

	"cairn/api"
	"cairn/field"
)

// someRow is a row of n bytes that look like any, others for another seed.
func someRow(n, seed int) []byte {
	row := make([]byte, n)
	x := uint32(seed)*2654435761 + 1
	for i := range row {
		x = x*1664525 + 1013904223
		row[i] = byte(x >> 24)
	}
	return row
}

// allElements is a row of each element, in its place.
func allElements() []byte {
	row := make([]byte, 256)
	for i := range row {
		row[i] = byte(i)
	}
	return row
}

func mustSum(t *testing.T, a, b []byte) []byte {
	t.Helper()
	s, e := field.Sum(a, b)
	if e != api.OK {
		t.Fatalf("Sum(%v, %v): %d", a, b, e)
	}
	return s
}

func mustDot(t *testing.T, a, b []byte) field.Elem {
	t.Helper()
	d, e := field.Dot(a, b)
	if e != api.OK {
		t.Fatalf("Dot(%v, %v): %d", a, b, e)
	}
	return d
}

// P1.6
func TestScaleOfEveryElementByEveryOne(t *testing.T) {
	row := allElements()
	everyElement(func(c field.Elem) {
		s := field.Scale(row, c)
		if len(s) != len(row) {
			t.Fatalf("Scale by %d answers %d places", c, len(s))
		}
		for i := range s {
			if want := product(field.Elem(row[i]), c); field.Elem(s[i]) != want {
				t.Fatalf("Scale by %d: %d becomes %d, not %d", c, row[i], s[i], want)
			}
		}
	})
	if s := field.Scale([]byte{1, 2, 128}, 2); !bytes.Equal(s, []byte{2, 4, 29}) {
		t.Errorf("Scale(1 2 128; 2) = %v", s)
	}
}

// P1.6
func TestSumPlaceByPlace(t *testing.T) {
	for _, c := range []struct{ a, b, want []byte }{
		{[]byte{1, 2}, []byte{3, 4}, []byte{2, 6}},
		{[]byte{83, 0, 255}, []byte{202, 7, 255}, []byte{153, 7, 0}},
		{[]byte{5}, []byte{0}, []byte{5}},
	} {
		if s := mustSum(t, c.a, c.b); !bytes.Equal(s, c.want) {
			t.Errorf("Sum(%v, %v) = %v, not %v", c.a, c.b, s, c.want)
		}
	}
	a, b := someRow(1000, 1), someRow(1000, 2)
	s := mustSum(t, a, b)
	for i := range a {
		if field.Elem(s[i]) != field.Elem(a[i]).Plus(field.Elem(b[i])) {
			t.Fatalf("place %d: %d and %d make %d", i, a[i], b[i], s[i])
		}
	}
}

// P1.6
func TestDotIsTheSumOfTheProducts(t *testing.T) {
	if d := mustDot(t, []byte{1, 2}, []byte{3, 4}); d != 11 {
		t.Errorf("Dot(1 2; 3 4) = %d", d)
	}
	for n := range 70 {
		a, b := someRow(n, n+1), someRow(n, n+100)
		var want field.Elem
		for i := range a {
			want ^= product(field.Elem(a[i]), field.Elem(b[i]))
		}
		if d := mustDot(t, a, b); d != want {
			t.Errorf("Dot of %d places = %d, not %d", n, d, want)
		}
	}
}

// P1.6
func TestRowsWithoutPlaces(t *testing.T) {
	empty := []byte{}
	for _, a := range [][]byte{nil, empty} {
		if s := field.Scale(a, 7); len(s) != 0 {
			t.Errorf("Scale of no places = %v", s)
		}
		for _, b := range [][]byte{nil, empty} {
			if s := mustSum(t, a, b); len(s) != 0 {
				t.Errorf("Sum of no places = %v", s)
			}
			if d := mustDot(t, a, b); d != 0 {
				t.Errorf("Dot of no places = %d", d)
			}
		}
	}
}

// P1.6
func TestRowsOfUnlikeLengths(t *testing.T) {
	roomy := make([]byte, 1, 8)
	for _, c := range [][2][]byte{
		{{1}, nil}, {nil, {1}}, {{1, 2}, {1}}, {{1}, {1, 2}}, {{0, 0}, {0}}, {roomy, {1, 2}}, {someRow(300, 1), someRow(299, 1)},
	} {
		if s, e := field.Sum(c[0], c[1]); len(s) != 0 || e != api.ErrUneven {
			t.Errorf("Sum of %d and %d places = %v, %d", len(c[0]), len(c[1]), s, e)
		}
		if d, e := field.Dot(c[0], c[1]); d != 0 || e != api.ErrUneven {
			t.Errorf("Dot of %d and %d places = %d, %d", len(c[0]), len(c[1]), d, e)
		}
	}
}

// roomyRow is a piece of a longer row, with bytes of the owner's behind it, and a copy of the whole.
func roomyRow(n, seed int) (row, whole, before []byte) {
	whole = someRow(n+8, seed)
	return whole[:n], whole, bytes.Clone(whole)
}

// fill overwrites a row and the room behind it.
func fill(row []byte, with byte) {
	row = row[:cap(row)]
	for i := range row {
		row[i] = with
	}
}

// THE PAGE, Memory
func TestRowsHandedInStayAsTheyWere(t *testing.T) {
	for _, n := range []int{0, 1, 2, 15, 16, 100} {
		a, wholeA, beforeA := roomyRow(n, 1)
		b, wholeB, beforeB := roomyRow(n, 2)
		everyElement(func(c field.Elem) { field.Scale(a, c) })
		mustSum(t, a, b)
		mustDot(t, a, b)
		field.Sum(a, wholeB)
		field.Dot(wholeA, b)
		if !bytes.Equal(wholeA, beforeA) || !bytes.Equal(wholeB, beforeB) {
			t.Errorf("rows of %d places were changed", n)
		}
	}
}

// THE PAGE, Memory
func TestAnsweredRowsAreNewMemory(t *testing.T) {
	for _, n := range []int{0, 1, 2, 15, 16, 100} {
		for _, answer := range []func(a, b []byte) []byte{
			func(a, b []byte) []byte { return field.Scale(a, 1) },
			func(a, b []byte) []byte { return field.Scale(a, 0) },
			func(a, b []byte) []byte { return field.Scale(a, 29) },
			func(a, b []byte) []byte { return mustSum(t, a, b) },
			func(a, b []byte) []byte { return mustSum(t, a, make([]byte, n)) },
		} {
			a, wholeA, beforeA := roomyRow(n, 1)
			b, wholeB, beforeB := roomyRow(n, 2)
			first, second := answer(a, b), answer(a, b)
			kept := bytes.Clone(second)
			fill(first, 170)
			if !bytes.Equal(wholeA, beforeA) || !bytes.Equal(wholeB, beforeB) {
				t.Fatalf("an answer of %d places shares memory with an argument", n)
			}
			if !bytes.Equal(second, kept) || !bytes.Equal(answer(a, b), kept) {
				t.Fatalf("two answers of %d places share memory", n)
			}
			fill(a, 85)
			fill(b, 85)
			if !bytes.Equal(second, kept) {
				t.Fatalf("an answer of %d places hangs on its argument", n)
			}
		}
	}
}

// P1.9
func TestScaleGoesThroughSums(t *testing.T) {
	for n := range 40 {
		a, b := someRow(n, n), someRow(n, n+50)
		everyElement(func(c field.Elem) {
			together := field.Scale(mustSum(t, a, b), c)
			apart := mustSum(t, field.Scale(a, c), field.Scale(b, c))
			if !bytes.Equal(together, apart) {
				t.Fatalf("%d places by %d: %v, %v", n, c, together, apart)
			}
		})
	}
}

// P1.9
func TestDotGoesThroughSums(t *testing.T) {
	for n := range 300 {
		a, b, d := someRow(n, n), someRow(n, n+500), someRow(n, n+1000)
		together := mustDot(t, mustSum(t, a, b), d)
		apart := mustDot(t, a, d).Plus(mustDot(t, b, d))
		if together != apart {
			t.Fatalf("%d places: %d, %d", n, together, apart)
		}
	}
}

package poly_test

import (
	"fmt"
	"math"
	"slices"
	"testing"

	"cairn/api"
	"cairn/field"
	"cairn/poly"
)

// P2.1
func TestTrimAndDegree(t *testing.T) {
	for _, p := range lists() {
		wantPoly(t, fmt.Sprintf("Trim(%v)", p), poly.Trim(p), p)
		if d := poly.Degree(p); d != degree(p) {
			t.Errorf("Degree(%v) = %d", p, d)
		}
	}
	for _, c := range []struct {
		p, want list
		degree  int
	}{
		{list{1, 0, 2, 0, 0}, list{1, 0, 2}, 2}, {list{0, 0}, nil, -1}, {list{7}, list{7}, 0}, {nil, nil, -1}, {list{}, nil, -1}, {list{0, 0, 9}, list{0, 0, 9}, 2},
	} {
		if p, d := poly.Trim(c.p), poly.Degree(c.p); !slices.Equal(p, c.want) || d != c.degree {
			t.Errorf("%v: Trim %v, Degree %d", c.p, p, d)
		}
	}
}

// P2.1
func TestAtIsTheSumOverThePowers(t *testing.T) {
	for _, p := range lists() {
		for x := range 256 {
			x := field.Elem(x)
			if v := poly.At(p, x); v != value(p, x) {
				t.Fatalf("At(%v, %d) = %d, not %d", p, x, v, value(p, x))
			}
		}
		if v := poly.At(p, 0); len(p) > 0 && v != p[0] {
			t.Errorf("At(%v, 0) = %d", p, v)
		}
	}
	for _, c := range []struct {
		p       list
		x, want field.Elem
	}{{nil, 5, 0}, {nil, 0, 0}, {list{7}, 0, 7}, {list{1, 1}, 3, 2}, {list{0, 0, 1}, 3, 5}, {list{0, 2}, 128, 29}} {
		if v := poly.At(c.p, c.x); v != c.want {
			t.Errorf("At(%v, %d) = %d", c.p, c.x, v)
		}
	}
}

// P2.1: every product of two elements goes into a value.
func TestAtOfEveryProduct(t *testing.T) {
	for a := range 256 {
		for x := range 256 {
			a, x := field.Elem(a), field.Elem(x)
			if v := poly.At(list{0, a}, x); v != a.Times(x) {
				t.Fatalf("At([0 %d], %d) = %d", a, x, v)
			}
		}
	}
}

// P2.2
func TestPlus(t *testing.T) {
	everyPair(func(p, q list) {
		wantPoly(t, fmt.Sprintf("Plus(%v, %v)", p, q), poly.Plus(p, q), plus(p, q))
	})
	for _, c := range []struct{ p, q, want list }{
		{list{1, 2, 3}, list{1, 2}, list{0, 0, 3}},
		{list{1, 2}, list{1, 2, 3}, list{0, 0, 3}},
		{list{1, 2}, list{1, 2}, nil},
		{list{1, 2, 3}, list{1, 7, 3}, list{0, 5}},
		{nil, list{4, 0}, list{4}},
	} {
		if s := poly.Plus(c.p, c.q); !slices.Equal(s, c.want) {
			t.Errorf("Plus(%v, %v) = %v", c.p, c.q, s)
		}
	}
}

// P2.2
func TestScale(t *testing.T) {
	for _, p := range lists() {
		for c := range 256 {
			c := field.Elem(c)
			wantPoly(t, fmt.Sprintf("Scale(%v, %d)", p, c), poly.Scale(p, c), times(p, list{c}))
		}
	}
	if s := poly.Scale(list{1, 128}, 2); !slices.Equal(s, list{2, 29}) {
		t.Errorf("Scale([1 128], 2) = %v", s)
	}
	if s := poly.Scale(list{1, 2}, 0); len(s) != 0 {
		t.Errorf("Scale([1 2], 0) = %v", s)
	}
}

// P2.2
func TestTimes(t *testing.T) {
	everyPair(func(p, q list) {
		wantPoly(t, fmt.Sprintf("Times(%v, %v)", p, q), poly.Times(p, q), times(p, q))
	})
	for a := range 256 {
		for b := range 256 {
			a, b := field.Elem(a), field.Elem(b)
			wantPoly(t, fmt.Sprintf("Times([%d], [%d])", a, b), poly.Times(list{a}, list{b}), list{a.Times(b)})
		}
	}
	for _, c := range []struct{ p, q, want list }{
		{list{1, 1}, list{1, 1}, list{1, 0, 1}}, {list{1, 1}, nil, nil}, {nil, list{1, 1}, nil}, {list{0, 0}, list{9}, nil}, {list{2, 1}, list{3, 1}, list{6, 1, 1}},
	} {
		if s := poly.Times(c.p, c.q); !slices.Equal(s, c.want) {
			t.Errorf("Times(%v, %v) = %v", c.p, c.q, s)
		}
	}
}

// P2.3
func TestDivide(t *testing.T) {
	everyPair(func(p, q list) {
		s, r, e := poly.Divide(p, q)
		what := fmt.Sprintf("Divide(%v, %v)", p, q)
		if degree(q) < 0 {
			if len(s) != 0 || len(r) != 0 || e != api.ErrZero {
				t.Fatalf("%s = %v, %v, %d", what, s, r, e)
			}
			return
		}
		if e != api.OK || degree(r) >= degree(q) {
			t.Fatalf("%s = %v, %v, %d", what, s, r, e)
		}
		wantPoly(t, what+", s q + r", plus(times(s, q), r), p)
		quotient, rest := divide(p, q)
		wantPoly(t, what+", the quotient", s, quotient)
		wantPoly(t, what+", the rest", r, rest)
	})
	for _, c := range []struct {
		p, q, s, r list
		e          api.Errno
	}{
		{list{6, 1, 1}, list{3, 1}, list{2, 1}, nil, api.OK},
		{list{1}, list{0, 1}, nil, list{1}, api.OK},
		{list{1, 1}, list{0}, nil, nil, api.ErrZero},
		{list{1, 1}, nil, nil, nil, api.ErrZero},
		{nil, list{0, 0, 0}, nil, nil, api.ErrZero},
		{nil, list{5}, nil, nil, api.OK},
		{list{0, 0}, list{5, 0}, nil, nil, api.OK},
		{list{0, 0, 1}, list{1, 2}, list{71, 142}, list{71}, api.OK},
		{list{7, 9}, list{7, 9, 0}, list{1}, nil, api.OK},
		{list{10, 4, 0}, list{2, 0, 0}, list{5, 2}, nil, api.OK},
	} {
		if s, r, e := poly.Divide(c.p, c.q); !slices.Equal(s, c.s) || !slices.Equal(r, c.r) || e != c.e {
			t.Errorf("Divide(%v, %v) = %v, %v, %d", c.p, c.q, s, r, e)
		}
	}
}

// P2.4
func TestDerive(t *testing.T) {
	for _, p := range lists() {
		want := make(list, len(p))
		for i := range p {
			if i%2 == 1 {
				want[i-1] = p[i]
			}
		}
		wantPoly(t, fmt.Sprintf("Derive(%v)", p), poly.Derive(p), want)
	}
	for _, c := range []struct{ p, want list }{
		{list{5, 6, 7, 8}, list{6, 0, 8}}, {list{5}, nil}, {nil, nil}, {list{0, 0, 9}, nil}, {list{5, 6, 7, 8, 9}, list{6, 0, 8}}, {list{0, 1, 0, 0}, list{1}},
	} {
		if d := poly.Derive(c.p); !slices.Equal(d, c.want) {
			t.Errorf("Derive(%v) = %v", c.p, d)
		}
	}
	everyPair(func(p, q list) {
		want := plus(times(poly.Derive(p), q), times(p, poly.Derive(q)))
		wantPoly(t, fmt.Sprintf("Derive of %v times %v", p, q), poly.Derive(times(p, q)), want)
	})
}

// P2.5
func TestVanish(t *testing.T) {
	for _, points := range append(lists(), allPoints()) {
		want := list{1}
		for _, a := range points {
			want = times(want, list{a, 1})
		}
		got := poly.Vanish(points)
		wantPoly(t, fmt.Sprintf("Vanish(%v)", points), got, want)
		if degree(got) != len(points) {
			t.Fatalf("Vanish(%v) has the degree %d", points, degree(got))
		}
	}
	for _, c := range []struct{ points, want list }{
		{nil, list{1}}, {list{}, list{1}}, {list{2, 3}, list{6, 1, 1}}, {list{3, 2}, list{6, 1, 1}}, {list{0, 0}, list{0, 0, 1}}, {list{1, 1}, list{1, 0, 1}}, {list{5}, list{5, 1}},
	} {
		if p := poly.Vanish(c.points); !slices.Equal(p, c.want) {
			t.Errorf("Vanish(%v) = %v", c.points, p)
		}
	}
	all := make(list, 257) // x to the power 256, plus x
	all[1], all[256] = 1, 1
	wantPoly(t, "Vanish of all points", poly.Vanish(allPoints()), all)
}

// allPoints are the 256 elements, in an order that is not theirs.
func allPoints() list {
	l := make(list, 256)
	for i := range l {
		l[i] = field.Elem(i*167 + 13)
	}
	return l
}

// P2.6
func TestThrough(t *testing.T) {
	for n := range 257 {
		points, values := allPoints()[:n], some(n, n)
		p, e := poly.Through(points, values)
		if e != api.OK || !trimmed(p) || degree(p) >= n && n > 0 || n == 0 && len(p) != 0 {
			t.Fatalf("Through of %d points = %v, %d", n, p, e)
		}
		for i := range points {
			if v := value(p, points[i]); v != values[i] {
				t.Fatalf("Through of %d points: the value at %d is %d, not %d", n, points[i], v, values[i])
			}
		}
	}
	for _, c := range []struct {
		x, y, want list
	}{
		{list{0, 1}, list{1, 0}, list{1, 1}}, {list{5}, list{0}, nil}, {nil, nil, nil}, {list{}, nil, nil}, {list{5}, list{9}, list{9}},
		{list{0, 1, 2}, list{6, 6, 0}, list{6, 1, 1}}, {list{2, 0, 1}, list{0, 6, 6}, list{6, 1, 1}}, {list{9, 8, 7}, list{4, 4, 4}, list{4}},
	} {
		if p, e := poly.Through(c.x, c.y); !slices.Equal(p, c.want) || e != api.OK {
			t.Errorf("Through(%v, %v) = %v, %d", c.x, c.y, p, e)
		}
	}
}

// P2.6
func TestThroughOfWrongLists(t *testing.T) {
	many := append(allPoints(), 0)
	roomy := append(make(list, 0, 8), 3)
	for _, c := range []struct {
		x, y list
		e    api.Errno
	}{
		{list{1, 1}, list{2, 2}, api.ErrSame},
		{list{0, 1, 2, 0}, list{1, 2, 3, 4}, api.ErrSame},
		{list{0, 0}, list{0, 0}, api.ErrSame},
		{list{255, 7, 255}, list{1, 2, 3}, api.ErrSame},
		{many, some(257, 1), api.ErrSame},
		{list{1}, nil, api.ErrArg},
		{nil, list{1}, api.ErrArg},
		{list{1, 1}, list{2}, api.ErrArg},
		{list{1, 2}, roomy, api.ErrArg},
		{many, some(256, 1), api.ErrArg},
	} {
		if p, e := poly.Through(c.x, c.y); len(p) != 0 || e != c.e {
			t.Errorf("Through(%v, %v) = %v, %d, not %d", c.x, c.y, p, e, c.e)
		}
	}
}

// P2.7
func TestRoots(t *testing.T) {
	all := append(lists(), times(list{2, 1}, exact(40, 1)), poly.Vanish(allPoints()), times(poly.Vanish(allPoints()), exact(300, 2)), exact(2000, 3))
	for i := range 12 { // one power alone, far above the number of the elements, and one less than it
		p := make(list, 508+i)
		p[len(p)-1], p[i%3] = 1, field.Elem(i)
		all = append(all, p)
	}
	for _, p := range all {
		var want list
		for x := range 256 {
			if value(p, field.Elem(x)) == 0 {
				want = append(want, field.Elem(x))
			}
		}
		if r := poly.Roots(p); !slices.Equal(r, want) {
			t.Errorf("Roots(%v) = %v, not %v", p, r, want)
		}
	}
	for _, c := range []struct{ p, want list }{
		{list{6, 1, 1}, list{2, 3}}, {list{5}, nil}, {list{0, 1}, list{0}}, {list{0, 0, 9}, list{0}}, {poly.Vanish(list{200, 7, 0, 7, 255}), list{0, 7, 200, 255}},
	} {
		if r := poly.Roots(c.p); !slices.Equal(r, c.want) {
			t.Errorf("Roots(%v) = %v", c.p, r)
		}
	}
	for _, zero := range []list{nil, {}, {0}, make(list, 400)} {
		if r := poly.Roots(zero); len(r) != 256 || r[0] != 0 || r[1] != 1 || r[255] != 255 {
			t.Errorf("Roots of the zero polynomial: %v", r)
		}
	}
}

// euclid is the whole row with its multipliers, as the chapter says it.
func euclid(p, q list) [][3]list {
	row := [][3]list{{p, {1}, nil}, {q, nil, {1}}}
	for {
		a, b := row[len(row)-2], row[len(row)-1]
		if degree(b[0]) < 0 {
			return row
		}
		s, r := divide(a[0], b[0])
		row = append(row, [3]list{r, plus(a[1], times(s, b[1])), plus(a[2], times(s, b[2]))})
	}
}

// P2.8
func TestPartial(t *testing.T) {
	bounds := []int{0, 1, 2, 3, 5, 8, 10, 13, 19, 20, 21, 60, 64, 99, 150, 254, 255, 256, 257, 299, 300, 301, 1000, math.MaxInt}
	everyPair(func(p, q list) {
		row := euclid(p, q)
		for _, below := range bounds {
			what := fmt.Sprintf("Partial(%v, %v, %d)", p, q, below)
			i := slices.IndexFunc(row, func(x [3]list) bool { return degree(x[0]) < below })
			g, u, v, e := poly.Partial(p, q, below)
			if e != api.OK {
				t.Fatalf("%s: %d", what, e)
			}
			wantPoly(t, what+", g", g, row[i][0])
			wantPoly(t, what+", u", u, row[i][1])
			wantPoly(t, what+", v", v, row[i][2])
		}
	})
}

// P2.8
func TestPartialOfExamples(t *testing.T) {
	for _, c := range []struct {
		p, q    list
		below   int
		g, u, v list
		e       api.Errno
	}{
		{list{6, 1, 1}, list{2, 1}, 1, nil, list{1}, list{3, 1}, api.OK},
		{list{6, 1, 1}, list{2, 1}, 2, list{2, 1}, nil, list{1}, api.OK},
		{list{6, 1, 1}, list{2, 1}, 3, list{6, 1, 1}, list{1}, nil, api.OK},
		{list{1}, list{5}, 1, list{1}, list{1}, nil, api.OK},
		{list{1}, list{5}, 0, nil, list{1}, list{167}, api.OK},
		{nil, nil, 0, nil, list{1}, nil, api.OK},
		{nil, list{5, 1}, 0, nil, list{1}, nil, api.OK},
		{list{0, 0}, list{5, 1}, 0, nil, list{1}, nil, api.OK},
		{list{5, 1}, nil, 0, nil, nil, list{1}, api.OK},
		{list{5, 1}, list{0, 0}, 1, nil, nil, list{1}, api.OK},
		{list{5}, list{0, 0, 1}, 0, nil, list{0, 0, 167}, list{1}, api.OK},
		{list{1}, list{1}, -1, nil, nil, nil, api.ErrArg},
		{nil, nil, -1, nil, nil, nil, api.ErrArg},
		{list{1, 2}, list{3}, math.MinInt, nil, nil, nil, api.ErrArg},
	} {
		g, u, v, e := poly.Partial(c.p, c.q, c.below)
		if !slices.Equal(g, c.g) || !slices.Equal(u, c.u) || !slices.Equal(v, c.v) || e != c.e {
			t.Errorf("Partial(%v, %v, %d) = %v, %v, %v, %d", c.p, c.q, c.below, g, u, v, e)
		}
	}
}

package mend_test

import (
	"math"
	"testing"

	"cairn/api"
	"cairn/mend"
)

// P5.1: the greatest e with 2 * e + lost at most n - k, and -1 outside.
func TestRadius(t *testing.T) {
	numbers := []int{math.MinInt, math.MinInt + 1, -256, math.MaxInt - 1, math.MaxInt}
	for i := -3; i <= 260; i++ {
		numbers = append(numbers, i)
	}
	for _, n := range numbers {
		for _, k := range numbers {
			for _, lost := range numbers {
				want := -1
				if 1 <= k && k <= n && n <= 255 && 0 <= lost && lost <= n-k {
					want = (n - k - lost - (n-k-lost)%2) / 2
				}
				if got := mend.Radius(n, k, lost); got != want {
					t.Fatalf("Radius(%d, %d, %d) = %d, not %d", n, k, lost, got, want)
				}
			}
		}
	}
}

func TestRadiusOfExamples(t *testing.T) {
	for _, c := range [][4]int{{5, 1, 0, 2}, {5, 1, 1, 1}, {5, 1, 4, 0}, {5, 1, 5, -1}, {3, 3, 0, 0}, {2, 3, 0, -1}, {255, 1, 0, 127}, {256, 1, 0, -1}, {255, 255, 0, 0}, {255, 255, 1, -1}} {
		if got := mend.Radius(c[0], c[1], c[2]); got != c[3] {
			t.Errorf("Radius(%d, %d, %d) = %d, not %d", c[0], c[1], c[2], got, c[3])
		}
	}
}

// P5.2: the chapter's examples.
func TestColumnOfExamples(t *testing.T) {
	for _, c := range []struct {
		k     int
		word  list
		lost  []bool
		want  list
		wrong []int
		err   api.Errno
	}{
		{1, list{7, 7, 9, 7, 7}, marks(5), list{7, 7, 7, 7, 7}, []int{2}, api.OK},
		{1, list{7, 7, 9, 9, 7}, marks(5), list{7, 7, 7, 7, 7}, []int{2, 3}, api.OK},
		{1, list{7, 9, 0}, marks(3, 2), nil, nil, api.ErrWrong},
		{1, list{7, 0, 0}, marks(3, 1, 2), list{7, 7, 7}, nil, api.OK},
		{2, list{1, 2, 3, 5}, marks(4), nil, nil, api.ErrWrong},
		{2, list{0, 1, 2, 9}, marks(4), list{0, 1, 2, 3}, []int{3}, api.OK},
		{2, list{0, 1, 2, 9, 4}, marks(5, 0), list{0, 1, 2, 3, 4}, []int{3}, api.OK},
		{2, list{1, 2}, marks(1), nil, nil, api.ErrArg},
		{0, list{1}, marks(1), nil, nil, api.ErrArg},
		{2, list{1, 2, 3}, marks(3, 0, 1), nil, nil, api.ErrFew},
		{1, list{0}, marks(1), list{0}, nil, api.OK},
		{1, list{9}, marks(1), list{9}, nil, api.OK},
		{1, list{9}, marks(1, 0), nil, nil, api.ErrFew},
		{2, list{4, 8}, marks(2), list{4, 8}, nil, api.OK},
		{1, list{0, 0, 0, 0, 0}, marks(5), list{0, 0, 0, 0, 0}, nil, api.OK},
		{1, list{0, 5, 0, 5, 0}, marks(5), list{0, 0, 0, 0, 0}, []int{1, 3}, api.OK},
		{1, list{5, 5, 0, 0}, marks(4), nil, nil, api.ErrWrong},
	} {
		wantColumn(t, c.k, c.word, c.lost, c.want, c.wrong, c.err)
	}
}

// P5.2: every word of three values, with every choice of lost places.
func TestColumnOfAllSmallWords(t *testing.T) {
	for n := 1; n <= 5; n++ {
		everyWord(n, list{0, 1, 142}, func(word list) {
			for lost := range 1 << n {
				for k := 1; k <= n; k++ {
					wantAsReference(t, k, word, bits(n, lost))
				}
			}
		})
	}
}

// everyWord hands on every word of n of these values.
func everyWord(n int, values list, do func(word list)) {
	count := 1
	for range n {
		count *= len(values)
	}
	for number := range count {
		word := make(list, n)
		for i := range word {
			word[i] = values[number%len(values)]
			number /= len(values)
		}
		do(word)
	}
}

// P5.2: every number of wrong values, from none to all, beside every choice of lost places.
func TestColumnFindsWhatIsNear(t *testing.T) {
	r := source(1)
	for n := 1; n <= 7; n++ {
		for k := 1; k <= n; k++ {
			for lost := range 1 << n {
				for wrong := 0; wrong <= n; wrong++ {
					word := changed(r, someCodeWord(r, n, k), rising(r, n, wrong))
					wantAsReference(t, k, word, bits(n, lost))
				}
				wantAsReference(t, k, someWord(r, n), bits(n, lost))
			}
		}
	}
}

// P5.2: some words of nine to eleven places, where more than one degree lies between that of the near word and that of the word.
func TestColumnOfMorePlaces(t *testing.T) {
	r := source(2)
	for n := 9; n <= 11; n++ {
		for k := 1; k <= n; k++ {
			for range 12 {
				lost := marks(n, rising(r, n, r.Intn(n-k+2))...)
				there := places(lost, false)
				word := changed(r, someCodeWord(r, n, k), nil)
				for _, i := range rising(r, len(there), r.Intn(len(there)/2+1)) {
					word[there[i]] ^= 77
				}
				wantAsReference(t, k, word, lost)
			}
		}
	}
}

// bits is a list of n that says true where the number has a bit.
func bits(n, number int) []bool {
	out := make([]bool, n)
	for i := range out {
		out[i] = number>>i&1 == 1
	}
	return out
}

// longShapes are pairs of n and k, those of 255 places among them.
func longShapes() [][2]int {
	return [][2]int{{14, 10}, {15, 10}, {33, 32}, {64, 1}, {100, 51}, {254, 127}, {255, 1}, {255, 2}, {255, 127}, {255, 128}, {255, 222}, {255, 253}, {255, 254}, {255, 255}}
}

// P5.2: with many places: as many lost and wrong as may be, and one wrong value fewer.
func TestColumnOfManyPlaces(t *testing.T) {
	r := source(3)
	for _, s := range longShapes() {
		n, k := s[0], s[1]
		for _, f := range []int{0, 1, (n - k) / 2, n - k - 1, n - k} {
			if f < 0 || f > n-k {
				continue
			}
			e := (n - k - f) / 2
			for _, wrong := range []int{0, e - 1, e} {
				if wrong >= 0 {
					columnWith(t, n, k, f, wrong, r.Int())
				}
			}
		}
	}
}

// columnWith takes a code word with f lost and some wrong values, at places of any order, and wants it back.
func columnWith(t *testing.T, n, k, f, wrong, seed int) {
	t.Helper()
	r := source(seed)
	right := someCodeWord(r, n, k)
	order := r.Perm(n)
	lost := marks(n, order[:f]...)
	at := places(marks(n, order[f:f+wrong]...), true)
	word := changed(r, right, at)
	for _, i := range places(lost, true) {
		word[i] = 3 // says nothing
	}
	wantColumn(t, k, word, lost, right, at, api.OK)
}

// P5.2: one wrong value more is ErrWrong wherever n - k - f is odd: another code word is then too far away.
func TestOneWrongValueMore(t *testing.T) {
	r := source(4)
	for _, s := range append(longShapes(), [2]int{5, 2}, [2]int{8, 1}) {
		n, k := s[0], s[1]
		for _, f := range []int{0, 1, (n - k) / 2, (n-k)/2 + 1, n - k - 1} {
			if f < 0 || f >= n-k || (n-k-f)%2 == 0 {
				continue
			}
			order := r.Perm(n)
			at := order[f : f+(n-k-f)/2+1]
			word := changed(r, someCodeWord(r, n, k), at)
			wantColumn(t, k, word, marks(n, order[:f]...), nil, nil, api.ErrWrong)
		}
	}
}

// P5.2: words of any values, of which none is near.
func TestColumnOfNoCodeWord(t *testing.T) {
	r := source(5)
	for _, s := range [][2]int{{64, 1}, {100, 51}, {255, 1}, {255, 127}, {255, 128}, {255, 200}} {
		n, k := s[0], s[1]
		for _, f := range []int{0, 7, (n - k) / 2} {
			wantColumn(t, k, someWord(r, n), marks(n, rising(r, n, f)...), nil, nil, api.ErrWrong)
		}
	}
}

// P5.2: what stands at a lost place says nothing, and is told as no wrong one.
func TestLostValuesSayNothing(t *testing.T) {
	r := source(6)
	for n := 2; n <= 9; n++ {
		for k := 1; k < n; k++ {
			right := someCodeWord(r, n, k)
			for f := 1; f <= n-k; f++ {
				at := rising(r, n, f)
				wantColumn(t, k, changed(r, right, at), marks(n, at...), right, nil, api.OK)
				wantColumn(t, k, right, marks(n, at...), right, nil, api.OK)
			}
		}
	}
}

// P5.2: which error comes first, and nothing beside it.
func TestErrorsOfColumn(t *testing.T) {
	r := source(7)
	for _, c := range []struct {
		k    int
		word list
		lost []bool
		err  api.Errno
	}{
		{1, nil, nil, api.ErrArg},
		{0, nil, nil, api.ErrArg},
		{0, list{1, 1}, marks(2), api.ErrArg},
		{-1, list{1, 1}, marks(2), api.ErrArg},
		{math.MinInt, list{1, 1}, marks(2), api.ErrArg},
		{3, list{1, 1}, marks(2), api.ErrArg},
		{math.MaxInt, list{1, 1}, marks(2), api.ErrArg},
		{1, make(list, 256), marks(256), api.ErrArg},
		{256, make(list, 256), marks(256), api.ErrArg},
		{128, make(list, 70000), marks(70000), api.ErrArg},
		{1, make(list, 255), marks(256), api.ErrArg},
		{1, list{1, 1}, nil, api.ErrArg},
		{1, list{1, 1}, marks(1), api.ErrArg},
		{1, list{1, 1}, marks(3), api.ErrArg},
		{1, nil, marks(1), api.ErrArg},
		{2, list{1, 1, 1}, marks(2, 0, 1), api.ErrArg}, // of another length, and too few
		{3, list{1, 1, 1}, marks(3, 1), api.ErrFew},
		{1, list{1, 2, 3}, marks(3, 0, 1, 2), api.ErrFew},
		{4, list{1, 2, 3, 9, 7, 5}, marks(6, 0, 2, 4), api.ErrFew}, // too few; nothing can be wrong
		{255, make(list, 255), marks(255, 254), api.ErrFew},
		{1, list{1, 2}, marks(2), api.ErrWrong},
		{3, list{1, 1, 1, 2}, marks(4), api.ErrWrong},
		{254, someWord(r, 255), marks(255), api.ErrWrong},
	} {
		wantColumn(t, c.k, c.word, c.lost, nil, nil, c.err)
	}
}

// P5.2: just as many places as are wanted are enough, whatever their values: nothing can be wrong then.
func TestJustEnoughPlaces(t *testing.T) {
	r := source(8)
	for _, s := range [][2]int{{1, 1}, {2, 1}, {5, 3}, {20, 13}, {255, 100}, {255, 255}} {
		n, k := s[0], s[1]
		order := r.Perm(n)
		lost := marks(n, order[k:]...)
		word := someWord(r, n)
		wantColumn(t, k, word, lost, through(n, places(lost, false), word), nil, api.OK)
	}
}

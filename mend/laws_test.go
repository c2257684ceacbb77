package mend_test

import (
	"math/rand"
	"slices"
	"testing"

	"cairn/api"
	"cairn/code"
	"cairn/field"
	"cairn/mend"
)

// encoded is what layer 4 answers of some data.
func encoded(t *testing.T, r *rand.Rand, k, m, length int) [][]byte {
	t.Helper()
	c, err := code.New(k, m)
	if err != api.OK {
		t.Fatalf("New(%d, %d): %d", k, m, err)
	}
	data := make([][]byte, k)
	for i := range data {
		data[i] = make([]byte, length)
		r.Read(data[i])
	}
	rows, err := c.Encode(data)
	if err != api.OK {
		t.Fatalf("Encode: %d", err)
	}
	return rows
}

// spoil is the rows with some lost and some changed: in one byte, in all, or into what they were.
func spoil(r *rand.Rand, rows [][]byte, lost, changed []int) (spoilt [][]byte, told []int) {
	for _, row := range rows {
		spoilt = append(spoilt, slices.Clone(row))
	}
	for i, p := range changed {
		row := spoilt[p]
		switch i % 3 {
		case 0:
			row[r.Intn(len(row))] ^= byte(1 + r.Intn(255))
		case 1:
			r.Read(row)
		}
		if !slices.Equal(row, rows[p]) {
			told = append(told, p)
		}
	}
	for _, p := range lost {
		spoilt[p] = nil
	}
	slices.Sort(told)
	return spoilt, told
}

// P5.4: all pairs of e and f that may be, of codes of a few places.
func TestHalfTheDistance(t *testing.T) {
	r := source(21)
	for k := 1; k <= 6; k++ {
		for m := 1; m <= k; m++ {
			for f := 0; f <= m; f++ {
				for e := 0; 2*e+f <= m; e++ {
					for range 4 {
						halfTheDistance(t, r, k, m, e, f, 1+r.Intn(9))
					}
				}
			}
		}
	}
}

// P5.4: codes of many places, at the edge.
func TestHalfTheDistanceOfManyPlaces(t *testing.T) {
	r := source(22)
	for _, s := range [][2]int{{10, 4}, {16, 16}, {30, 1}, {100, 3}, {128, 127}, {200, 55}} {
		for _, f := range []int{0, 1, s[1] / 2, s[1]} {
			halfTheDistance(t, r, s[0], s[1], (s[1]-f)/2, f, 5)
		}
	}
}

func halfTheDistance(t *testing.T, r *rand.Rand, k, m, e, f, length int) {
	t.Helper()
	rows := encoded(t, r, k, m, length)
	order := r.Perm(k + m)
	spoilt, told := spoil(r, rows, order[:f], order[f:f+e])
	wantMend(t, "half the distance", k, spoilt, rows, told, api.OK)
}

// isCodeWord tells, by the reference, whether the word's values are those of one polynomial of a degree below k.
func isCodeWord(k int, word list) bool {
	first := marks(len(word))
	for i := range k {
		first[i] = true
	}
	return slices.Equal(through(len(word), places(first, true), word), word)
}

// P5.5: what is answered is a code word, near, and stays as it is.
func TestAnswersAreNearCodeWords(t *testing.T) {
	r := source(23)
	answered := 0
	for range 4000 {
		n := 1 + r.Intn(12)
		k := 1 + r.Intn(n)
		lost := marks(n, rising(r, n, r.Intn(n-k+1))...)
		word := changed(r, someCodeWord(r, n, k), rising(r, n, r.Intn((n-k)/2+2)))
		near, wrong, err := mend.Column(k, word, lost)
		if err != api.OK {
			continue
		}
		answered++
		if !isCodeWord(k, near) || !slices.Equal(wrong, differences(near, word, lost)) || !isNear(n, k, len(wrong), len(places(lost, true))) {
			t.Fatalf("Column(%d, %v, lost %v) = %v, %v", k, word, places(lost, true), near, wrong)
		}
		wantColumn(t, k, near, make([]bool, n), near, nil, api.OK)
		rows := byColumns(make([]bool, n), near, near)
		wantMend(t, "once more", k, rows, rows, nil, api.OK)
	}
	if answered < 1000 {
		t.Fatalf("only %d answers", answered)
	}
}

// P5.5: a code word is answered as it is, of all numbers of places.
func TestCodeWordsStayAsTheyAre(t *testing.T) {
	r := source(24)
	for n := 1; n <= 255; n += 1 + n/8 {
		for _, k := range []int{1, (n + 1) / 2, n} {
			word := someCodeWord(r, n, k)
			wantColumn(t, k, word, make([]bool, n), word, nil, api.OK)
			rows := byColumns(make([]bool, n), word)
			wantMend(t, "a code word", k, rows, rows, nil, api.OK)
		}
	}
}

// P5.5: two lines that are not the same differ at n - 1 places or more, and some at just so many; both are answered as they are, so they are code words.
func TestDistanceOfLines(t *testing.T) {
	const a, b = 0x35, 0x77
	for n := 2; n <= 9; n++ {
		line, none := codeWord(n, list{a, b}), make([]bool, n)
		wantColumn(t, 2, line, none, line, nil, api.OK)
		closest := 0
		for number := range 1 << 16 {
			other := codeWord(n, list{field.Elem(number), field.Elem(number >> 8)})
			distance := len(differences(line, other, none))
			if distance == n-1 {
				closest++
				wantColumn(t, 2, other, none, other, nil, api.OK)
			}
			if distance < n-1 && !slices.Equal(other, line) {
				t.Fatalf("%v and %v differ at %d places", line, other, distance)
			}
		}
		if closest != 255*n {
			t.Errorf("%d places: %d lines cross one at a place", n, closest)
		}
	}
}

// closest is two code words that differ at just n - k + 1 places, and these: the second one's polynomial is the first one's plus one of degree k - 1 that is zero at the other places.
func closest(r *rand.Rand, n, k int) (a, b list, differ []int) {
	order := r.Perm(n)
	zeros := list{1}
	for _, p := range order[:k-1] {
		next := append(list{0}, zeros...)
		for i, c := range zeros {
			next[i] ^= products[c][p]
		}
		zeros = next
	}
	a = someCodeWord(r, n, k)
	b = slices.Clone(a)
	for i, v := range codeWord(n, zeros) {
		b[i] ^= v
	}
	return a, b, places(marks(n, order[k-1:]...), true)
}

// P5.5: between two code words that differ at just n - k + 1 places the nearer one is answered; half way there is none, if n - k is odd.
func TestBetweenTwoCodeWords(t *testing.T) {
	r := source(25)
	for _, s := range [][2]int{{2, 1}, {3, 1}, {4, 2}, {5, 2}, {5, 3}, {8, 3}, {9, 3}, {14, 10}, {40, 25}, {255, 2}, {255, 128}, {255, 222}} {
		n, k := s[0], s[1]
		none := make([]bool, n)
		a, b, differ := closest(r, n, k)
		if got := differences(a, b, none); !slices.Equal(got, differ) {
			t.Fatalf("n %d, k %d: they differ at %v, not at %v", n, k, got, differ)
		}
		for step := range n - k + 2 {
			r.Shuffle(len(differ), func(i, j int) { differ[i], differ[j] = differ[j], differ[i] })
			word := slices.Clone(a)
			for _, i := range differ[:step] {
				word[i] = b[i]
			}
			switch {
			case 2*step <= n-k:
				wantColumn(t, k, word, none, a, differences(a, word, none), api.OK)
			case 2*(n-k+1-step) <= n-k:
				wantColumn(t, k, word, none, b, differences(b, word, none), api.OK)
			default:
				wantColumn(t, k, word, none, nil, nil, api.ErrWrong)
			}
		}
	}
}

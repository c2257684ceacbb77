package mend_test

import (
	"math"
	"slices"
	"strings"
	"testing"

	"cairn/api"
)

// P5.3: the chapter's examples, and the least rows there are.
func TestMendOfExamples(t *testing.T) {
	for _, c := range []struct {
		k          int
		rows, want [][]byte
		wrong      []int
		err        api.Errno
	}{
		{1, texts("aa", "ab", "aa"), texts("aa", "aa", "aa"), []int{1}, api.OK},
		{1, texts("ab", "bb", "ab", "", "aa"), texts("ab", "ab", "ab", "ab", "ab"), []int{1, 4}, api.OK},
		{1, texts("a", "bb"), nil, nil, api.ErrLengths},
		{1, texts("", ""), nil, nil, api.ErrFew},
		{2, texts("a"), nil, nil, api.ErrArg},
		{1, texts("ab", "ba"), nil, nil, api.ErrWrong},
		{1, texts("a"), texts("a"), nil, api.OK},
		{1, texts("abc", ""), texts("abc", "abc"), nil, api.OK},
		{1, texts("", "", "", "x"), texts("x", "x", "x", "x"), nil, api.OK},
		{2, texts("\x00", "\x01", "\x02", "\x09"), texts("\x00", "\x01", "\x02", "\x03"), []int{3}, api.OK},
		{2, texts("", "\x01", "\x02", "\x09", "\x04"), texts("\x00", "\x01", "\x02", "\x03", "\x04"), []int{3}, api.OK},
	} {
		wantMend(t, "example", c.k, c.rows, c.want, c.wrong, c.err)
	}
}

// wantMendAsReference holds what Mend answers of these columns against the reference, column by column.
func wantMendAsReference(t *testing.T, k int, lost []bool, columns []list) {
	t.Helper()
	rows := byColumns(lost, columns...)
	wrongAt := make([]bool, len(lost))
	var words []list
	for _, column := range columns {
		near, wrong, found := nearest(k, column, lost)
		if !found {
			wantMend(t, "one column is wrong", k, rows, nil, nil, api.ErrWrong)
			return
		}
		words = append(words, near)
		for _, i := range wrong {
			wrongAt[i] = true
		}
	}
	want := byColumns(make([]bool, len(lost)), words...)
	wantMend(t, "all columns are near", k, rows, want, places(wrongAt, true), api.OK)
}

// P5.3: some columns with the same lost places, each wrong at places of its own.
func TestMendGoesByColumns(t *testing.T) {
	r := source(11)
	for n := 1; n <= 6; n++ {
		for k := 1; k <= n; k++ {
			for number := range 1 << n {
				lost := bits(n, number)
				there := places(lost, false)
				if len(there) < k {
					continue
				}
				for e := range (len(there)-k)/2 + 1 {
					var columns []list
					for range 1 + r.Intn(6) {
						at := picked(there, rising(r, len(there), r.Intn(e+1)))
						columns = append(columns, changed(r, someCodeWord(r, n, k), at))
					}
					wantMendAsReference(t, k, lost, columns)
					columns[r.Intn(len(columns))] = someWord(r, n)
					wantMendAsReference(t, k, lost, columns)
				}
			}
		}
	}
}

// picked is the elements at the places.
func picked(from, places []int) []int {
	var out []int
	for _, i := range places {
		out = append(out, from[i])
	}
	return out
}

// P5.3: columns right and wrong in every order, with one wrong row, then another: what a column showed is not taken for granted of the next.
func TestColumnsInEveryOrder(t *testing.T) {
	r := source(12)
	const n, k = 5, 3
	for order := range 6 * 6 * 6 * 6 {
		var columns []list
		for rest := order; len(columns) < 4; rest /= 6 {
			var at []int
			if rest%6 < n {
				at = []int{rest % 6}
			}
			columns = append(columns, changed(r, someCodeWord(r, n, k), at))
		}
		wantMendAsReference(t, k, make([]bool, n), columns)
	}
}

// P5.3: every row is wrong somewhere, and no column at more places than may be.
func TestMoreRowsThanOneColumnHas(t *testing.T) {
	r := source(13)
	for _, s := range [][3]int{{3, 1, 0}, {5, 3, 0}, {7, 2, 1}, {20, 9, 3}, {255, 127, 0}, {255, 200, 30}} {
		n, k, f := s[0], s[1], s[2]
		lost := marks(n, rising(r, n, f)...)
		there := places(lost, false)
		e := (len(there) - k) / 2
		var right, columns []list
		for c := 0; c < len(there); c += e {
			word := someCodeWord(r, n, k)
			right = append(right, word)
			columns = append(columns, changed(r, word, there[c:min(c+e, len(there))]))
		}
		want := byColumns(make([]bool, n), right...)
		wantMend(t, "every row is wrong somewhere", k, byColumns(lost, columns...), want, there, api.OK)
	}
}

// P5.3: just one column of many is wrong by one value too much, at the beginning, in the middle, at the end.
func TestOneColumnTooWrong(t *testing.T) {
	r := source(14)
	const n, k, length = 9, 4, 31
	for _, at := range []int{0, 1, 15, 29, 30} {
		for _, f := range []int{0, 2, 4} {
			lost := marks(n, rising(r, n, f)...)
			there := places(lost, false)
			var columns []list
			for c := range length {
				wrong := 0
				if c == at {
					wrong = (n-k-f)/2 + 1
				}
				columns = append(columns, changed(r, someCodeWord(r, n, k), picked(there, rising(r, len(there), wrong))))
			}
			wantMend(t, "one column", k, byColumns(lost, columns...), nil, nil, api.ErrWrong)
			columns[at] = someCodeWord(r, n, k)
			wantMend(t, "no column", k, byColumns(lost, columns...), byColumns(make([]bool, n), columns...), nil, api.OK)
		}
	}
}

// P5.3: a lost row is nil or empty, and it makes no difference which.
func TestNilAndEmptyRowsAreLost(t *testing.T) {
	r := source(15)
	word := someCodeWord(r, 6, 2)
	want := byColumns(make([]bool, 6), word)
	for number := range 1 << 6 {
		lost := bits(6, number)
		rows := byColumns(lost, word)
		for i := range rows {
			if lost[i] && i%2 == 0 {
				rows[i] = []byte{}
			}
			if lost[i] && i%3 == 0 {
				rows[i] = make([]byte, 0, 9)
			}
		}
		if len(places(lost, false)) < 2 {
			wantMend(t, "too few", 2, rows, nil, nil, api.ErrFew)
			continue
		}
		wantMend(t, "enough", 2, rows, want, nil, api.OK)
	}
}

// P5.3: long rows, of which whole ones are wrong.
func TestMendOfLongRows(t *testing.T) {
	r := source(16)
	const n, k, length = 12, 6, 3000
	var columns []list
	for range length {
		columns = append(columns, someCodeWord(r, n, k))
	}
	want := byColumns(make([]bool, n), columns...)
	rows := byColumns(marks(n, 3, 11), columns...)
	r.Read(rows[0])
	for c := range rows[7] {
		rows[7][c] ^= 1
	}
	wantMend(t, "two wrong rows", k, rows, want, []int{0, 7}, api.OK)
	rows[5][length-1] ^= 128
	wantMend(t, "three wrong values in the last column", k, rows, nil, nil, api.ErrWrong)
}

// P5.3: which error comes first, and nothing beside it.
func TestErrorsOfMend(t *testing.T) {
	uneven := func(n int) [][]byte { return append(slices.Repeat(texts("ab"), n-1), []byte("abc")) }
	for _, c := range []struct {
		what string
		k    int
		rows [][]byte
		err  api.Errno
	}{
		{"no rows", 1, nil, api.ErrArg},
		{"no rows, nothing wanted", 0, nil, api.ErrArg},
		{"k of 0", 0, texts("a", "a"), api.ErrArg},
		{"k below 0", -1, texts("a", "a"), api.ErrArg},
		{"k far below 0", math.MinInt, texts("a", "a"), api.ErrArg},
		{"k above n", 3, texts("a", "a"), api.ErrArg},
		{"k far above n", math.MaxInt, texts("a", "a"), api.ErrArg},
		{"k above n, too few, unlike", 4, texts("a", "", "bb"), api.ErrArg},
		{"k of 0, unlike", 0, uneven(2), api.ErrArg},
		{"256 rows", 1, slices.Repeat(texts("a"), 256), api.ErrArg},
		{"256 rows, all wanted", 256, slices.Repeat(texts("a"), 256), api.ErrArg},
		{"256 unlike rows", 1, uneven(256), api.ErrArg},
		{"256 lost rows", 1, make([][]byte, 256), api.ErrArg},
		{"unlike at the end", 1, uneven(255), api.ErrLengths},
		{"unlike at the beginning", 2, texts("abc", "ab", "ab"), api.ErrLengths},
		{"unlike behind a lost one", 1, texts("ab", "", "a"), api.ErrLengths},
		{"unlike behind lost ones", 1, texts("", "", "ab", "", "abc", ""), api.ErrLengths},
		{"unlike, and too few", 3, texts("a", "bb", ""), api.ErrLengths},
		{"unlike, and wrong", 1, texts("a", "b", "cc"), api.ErrLengths},
		{"unlike back and forth", 1, texts("aa", "b", "aa"), api.ErrLengths},
		{"all lost", 1, make([][]byte, 255), api.ErrFew},
		{"all wanted, one lost", 3, texts("a", "", "b"), api.ErrFew},
		{"one too few", 2, texts("", "a", "", ""), api.ErrFew},
		{"wrong", 1, texts("a", "b"), api.ErrWrong},
		{"wrong at the last column", 1, texts("aaab", "aaac"), api.ErrWrong},
		{"wrong beside a lost one", 1, texts("a", "b", ""), api.ErrWrong},
	} {
		wantMend(t, c.what, c.k, c.rows, nil, nil, c.err)
	}
}

// P5.3: of 255 rows that repeat one another 127 may be wrong; as many on both sides are too many, and those that are more are the right ones.
func TestMendOfRowsThatRepeat(t *testing.T) {
	stone, sand := texts(strings.Repeat("stone ", 3)), texts(strings.Repeat("dunes.", 3))
	rows := append(slices.Repeat(sand, 127), slices.Repeat(stone, 128)...)
	wantMend(t, "127 and 128", 1, rows, slices.Repeat(stone, 255), from(0, 127), api.OK)
	rows[127] = nil
	wantMend(t, "127 and 127", 1, rows, nil, nil, api.ErrWrong)
	rows[254] = []byte{}
	wantMend(t, "127 and 126", 1, rows, slices.Repeat(sand, 255), from(128, 254), api.OK)
}

// from is the places from one to below another.
func from(first, behind int) []int {
	var out []int
	for i := first; i < behind; i++ {
		out = append(out, i)
	}
	return out
}

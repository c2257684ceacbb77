package mend_test

import (
	"fmt"
	"reflect"
	"slices"
	"sync"
	"testing"

	"cairn/api"
	"cairn/field"
	"cairn/mend"
)

// sample is words, or rows, for k.
type sample struct {
	k    int
	word list
	lost []bool
}

// samples are words that are right, that are put right, with lost places, with faults.
func samples() []sample {
	r := source(31)
	right := someCodeWord(r, 9, 4)
	return []sample{
		{4, right, marks(9)},
		{4, right, marks(9, 0, 1, 2, 3, 4)},
		{4, changed(r, right, []int{0, 8}), marks(9)},
		{4, changed(r, right, []int{1}), marks(9, 0, 2, 8)},
		{4, changed(r, right, []int{1, 2}), marks(9, 5)},
		{4, someWord(r, 9), marks(9)},
		{4, right, marks(9, 0, 1, 2, 3, 4, 5)},
		{4, right, marks(8)},
		{10, right, marks(9)},
		{0, right, marks(9)},
		{9, right, marks(9)},
		{1, list{3, 3, 4}, marks(3)},
		{1, nil, nil},
	}
}

// rows is the sample as rows of two columns.
func (s sample) rows() [][]byte {
	lost := append(slices.Clone(s.lost), make([]bool, 9)...)
	return byColumns(lost[:len(s.word)], s.word, s.word)
}

// overwrite fills a list and the room behind it.
func overwrite[E any](l []E, with E) {
	l = l[:cap(l)]
	for i := range l {
		l[i] = with
	}
}

// roomy is the list with two things of its owner's behind it, and all of it.
func roomy[E any](l []E, behind E) (list, whole []E) {
	whole = append(append(make([]E, 0, len(l)+2), l...), behind, behind)
	return whole[:len(l)], whole
}

// roomyRows is rows with room behind each, and behind the list of them.
func roomyRows(rows [][]byte) (list, whole [][]byte) {
	list, whole = roomy(rows, []byte("xyz"))
	for i, row := range whole {
		whole[i], _ = roomy(row, 201)
	}
	return list, whole
}

// everything is what stands in rows and in the room behind each, and where.
func everything(rows [][]byte) string {
	told := ""
	for _, row := range rows {
		told += fmt.Sprintf("%p %d %d ", row, len(row), row[:cap(row)])
	}
	return told
}

// P5.6: words and lists of lost places stay as they were, room too, and are not what is answered.
func TestWordsHandedInStayAsTheyWere(t *testing.T) {
	for i, s := range samples() {
		word, wholeWord := roomy(s.word, 200)
		lost, wholeLost := roomy(s.lost, true)
		wordBefore, lostBefore := slices.Clone(wholeWord), slices.Clone(wholeLost)
		for _, with := range []byte{0, 171} { // one of them is another value than stands there
			near, wrong, _ := mend.Column(s.k, word, lost)
			overwrite(near, field.Elem(with))
			overwrite(wrong, int(with))
		}
		if !slices.Equal(wholeWord, wordBefore) || !slices.Equal(wholeLost, lostBefore) {
			t.Errorf("sample %d: Column changed what it was handed, or answered it", i)
		}
	}
}

// P5.6: rows stay as they were, the list of them and all room too, and are not what is answered.
func TestRowsHandedInStayAsTheyWere(t *testing.T) {
	for i, s := range samples() {
		rows, whole := roomyRows(s.rows())
		before := everything(whole)
		for _, with := range []byte{0, 171} {
			mended, wrong, _ := mend.Mend(s.k, rows)
			for _, row := range mended {
				overwrite(row, with)
			}
			overwrite(mended, nil)
			overwrite(wrong, int(with))
		}
		if everything(whole) != before {
			t.Errorf("sample %d: Mend changed what it was handed, or answered it", i)
		}
	}
}

// P5.6: an answer is not touched by what is done to another one, nor to what was handed in.
func TestAnswersShareNoMemory(t *testing.T) {
	for i, s := range samples() {
		word, lost, rows := slices.Clone(s.word), slices.Clone(s.lost), s.rows()
		near, wrongColumn, _ := mend.Column(s.k, word, lost)
		mended, wrongRows, _ := mend.Mend(s.k, rows)
		nearBefore, columnBefore, rowsBefore := slices.Clone(near), slices.Clone(wrongColumn), slices.Clone(wrongRows)
		mendedBefore := everything(mended)

		otherNear, otherColumn, _ := mend.Column(s.k, word, lost)
		otherMended, otherRows, _ := mend.Mend(s.k, rows)
		overwrite(otherNear, 99)
		overwrite(otherColumn, 99)
		overwrite(otherRows, 99)
		for _, row := range slices.Concat(otherMended, rows) {
			overwrite(row, 99)
		}
		overwrite(otherMended, nil)
		overwrite(rows, nil)
		overwrite(word, 99)
		overwrite(lost, true)
		if !slices.Equal(near, nearBefore) || !slices.Equal(wrongColumn, columnBefore) {
			t.Errorf("sample %d: what Column answered is not its own", i)
		}
		if everything(mended) != mendedBefore || !slices.Equal(wrongRows, rowsBefore) {
			t.Errorf("sample %d: what Mend answered is not its own", i)
		}
	}
}

// P5.6: what is overwritten in one row of an answer, or in the room behind it, is seen in no other.
func TestAnsweredRowsShareNoMemory(t *testing.T) {
	for i, s := range samples() {
		mended, _, _ := mend.Mend(s.k, s.rows())
		for n, row := range mended {
			rest := slices.Concat(mended[:n], mended[n+1:])
			before := everything(rest)
			for _, with := range []byte{0, 171} {
				overwrite(row, with)
				if everything(rest) != before {
					t.Errorf("sample %d: row %d shares memory", i, n)
				}
			}
		}
	}
}

// P5.6: one list may stand at many places; it is still not changed, and not answered.
func TestOneRowAtManyPlaces(t *testing.T) {
	row := []byte("stone")
	mended, wrong, err := mend.Mend(1, [][]byte{row, row, nil, row, []byte("sand.")})
	if err != api.OK || !reflect.DeepEqual(wrong, []int{4}) || !sameRows(mended, slices.Repeat(texts("stone"), 5)) {
		t.Fatalf("%q, %v, %d", mended, wrong, err)
	}
	overwrite(mended[0], 'x')
	overwrite(mended[3], 'y')
	if string(row) != "stone" || string(mended[1]) != "stone" {
		t.Errorf("%q and %q share memory", row, mended[1])
	}
}

// The calls keep nothing: many at once, of the same things, answer as one alone does.
func TestManyCallsAtOnce(t *testing.T) {
	all := samples()
	var group sync.WaitGroup
	for range 8 {
		group.Go(func() {
			for _, s := range all {
				if len(s.lost) == len(s.word) {
					mend.Column(s.k, s.word, s.lost)
				}
			}
			mended, wrong, err := mend.Mend(all[2].k, all[2].rows())
			if err != api.OK || !slices.Equal(wrong, []int{0, 8}) || !sameRows(mended, all[0].rows()) {
				t.Error("Mend beside others")
			}
		})
	}
	group.Wait()
}

// P5.6: whatever is handed in, a call ends and does not panic, and beside an error there is nothing.
func TestEveryCallEnds(t *testing.T) {
	r := source(32)
	for range 3000 {
		n := r.Intn(9)
		if r.Intn(100) == 0 {
			n = 250 + r.Intn(10)
		}
		k := r.Intn(n+3) - 1
		word, lost := someWord(r, n), marks(n, rising(r, n, r.Intn(n+1))...)
		near, wrong, err := mend.Column(k, word, lost)
		if err != api.OK && len(near)+len(wrong) > 0 {
			t.Fatalf("Column: %v, %v beside %d", near, wrong, err)
		}
		rows := byColumns(lost, word, word, word)
		if n > 0 && r.Intn(3) == 0 {
			rows[r.Intn(n)] = make([]byte, r.Intn(5))
		}
		mended, wrong, err := mend.Mend(k, rows)
		if err != api.OK && len(mended)+len(wrong) > 0 {
			t.Fatalf("Mend: %v, %v beside %d", mended, wrong, err)
		}
	}
}

package code_test

import (
	"fmt"
	"reflect"
	"sync"
	"testing"

	"cairn/api"
	"cairn/code"
)

// calls are all that are handed rows or answer them.
func calls(s shape) map[string]func(c *code.Code, rows [][]byte) [][]byte {
	return map[string]func(c *code.Code, rows [][]byte) [][]byte{
		"Matrix":                     func(c *code.Code, rows [][]byte) [][]byte { return c.Matrix() },
		"Encode":                     func(c *code.Code, rows [][]byte) [][]byte { return first(c.Encode(rows[:min(s.k, len(rows))])) },
		"Encode all":                 func(c *code.Code, rows [][]byte) [][]byte { return first(c.Encode(rows)) },
		"Rebuild":                    func(c *code.Code, rows [][]byte) [][]byte { return first(c.Rebuild(rows)) },
		"Check":                      func(c *code.Code, rows [][]byte) [][]byte { c.Check(rows); return nil },
		"Turn":                       func(c *code.Code, rows [][]byte) [][]byte { return first(c.Turn(rows, 0, []byte{1, 2, 3})) },
		"Turn into a row of its own": func(c *code.Code, rows [][]byte) [][]byte { return first(c.Turn(rows, s.k-1, rows[len(rows)-1])) },
	}
}

func first(rows [][]byte, _ api.Errno) [][]byte { return rows }

// samples are lists of rows: words, others, with lost rows, with faults.
func samples(s shape) [][][]byte {
	word := someWord(s, 3, 1)
	last := append(upTo(s.m-1), s.n()-1)
	return [][][]byte{
		word,
		someRows(s.n(), 3, 2),
		without(word, upTo(s.m)),
		without(word, last),
		without(word, upTo(s.m+1)),
		make([][]byte, s.n()),
		someRows(s.n()+1, 3, 3),
		unlike(someWord(s, 3, 1), s.n()-1, 2),
		{{1, 2, 3}},
	}
}

// roomy is rows that have their owner's things behind them, and so has the list of them; and all of it, room too.
func roomy(rows [][]byte) (roomy, whole [][]byte) {
	for _, row := range rows {
		row = append(append([]byte(nil), row...), 11, 7, 1)
		whole = append(whole, row[:len(row)-3])
	}
	n := len(whole)
	whole = append(whole, []byte{4, 3}, []byte{5, 4})
	return whole[:n], whole
}

// everything is the rows with the room behind each, as they are now.
func everything(whole [][]byte) [][]byte {
	var out [][]byte
	for _, row := range whole {
		out = append(out, append([]byte{}, row[:cap(row)]...))
	}
	return out
}

// heads tells where each row begins, and how long it is.
func heads(rows [][]byte) []string {
	var out []string
	for _, row := range rows {
		out = append(out, fmt.Sprintf("%p %d %d", row, len(row), cap(row)))
	}
	return out
}

// fill overwrites an answer: its rows and the room behind them, and its list of rows and the room behind that.
func fill(rows [][]byte, with byte) {
	for _, row := range rows {
		row = row[:cap(row)]
		for i := range row {
			row[i] = with
		}
	}
	rows = rows[:cap(rows)]
	for i := range rows {
		rows[i] = nil
	}
}

func memoryShapes() []shape { return []shape{{1, 1}, {2, 1}, {2, 2}, {4, 3}, {10, 4}} }

func TestRowsHandedInStayAsTheyWere(t *testing.T) {
	for _, s := range memoryShapes() {
		c := mustNew(t, s)
		for name, call := range calls(s) {
			for i, sample := range samples(s) {
				rows, whole := roomy(sample)
				before, where := everything(whole), heads(whole)
				fill(call(c, rows), 0)
				fill(call(c, rows), 171)
				if !reflect.DeepEqual(everything(whole), before) || !reflect.DeepEqual(heads(whole), where) {
					t.Errorf("(%d, %d): %s changed what it was handed, or answered it, sample %d", s.k, s.m, name, i)
				}
			}
		}
	}
}

// Turn's data stay as they were too, and are not what is answered.
func TestDataHandedInStayAsTheyWere(t *testing.T) {
	for _, s := range memoryShapes() {
		c := mustNew(t, s)
		whole := []byte{1, 2, 3, 77, 78}
		for at := range s.k {
			word, _ := c.Turn(someWord(s, 3, 1), at, whole[:3])
			fill(word, 9)
			c.Turn(someWord(s, 2, 1), at, whole[:3])
			c.Turn(someWord(s, 3, 1), s.k, whole[:3])
		}
		if !reflect.DeepEqual(whole, []byte{1, 2, 3, 77, 78}) {
			t.Errorf("(%d, %d): the data are %v", s.k, s.m, whole)
		}
	}
}

// What is overwritten in one row is seen in no other, nor in an earlier answer.
func TestAnsweredRowsShareNoMemory(t *testing.T) {
	for _, s := range memoryShapes() {
		c := mustNew(t, s)
		for name, call := range calls(s) {
			for i, sample := range samples(s) {
				earlier, answer := call(c, sample), call(c, sample)
				before := everything(earlier)
				for n := range answer {
					rest := append(append([][]byte(nil), answer[:n]...), answer[n+1:]...)
					then := everything(rest)
					for _, with := range []byte{0, 171} { // one of them is another byte than stands there
						fill([][]byte{answer[n]}, with)
						if !reflect.DeepEqual(everything(rest), then) {
							t.Errorf("(%d, %d): row %d of %s shares memory, sample %d", s.k, s.m, n, name, i)
						}
					}
				}
				fill(answer, 172)
				if !reflect.DeepEqual(everything(earlier), before) {
					t.Errorf("(%d, %d): two answers of %s share memory, sample %d", s.k, s.m, name, i)
				}
			}
		}
	}
}

// Whatever is done to what a code answered, or was handed: it goes on as before.
func TestTheCodeStaysAsItWas(t *testing.T) {
	for _, s := range memoryShapes() {
		c, other := mustNew(t, s), mustNew(t, s)
		word := someWord(s, 3, 1)
		for range 2 {
			for _, call := range calls(s) {
				for _, sample := range samples(s) {
					rows := clone(sample)
					fill(call(c, rows), 7)
					fill(rows, 8)
				}
			}
			wantRows(t, "Matrix", c.Matrix(), 0, other.Matrix())
			wantRows(t, "Encode", mustEncode(t, c, word[:s.k]), 0, word)
			back, err := c.Rebuild(without(word, upTo(s.m)))
			wantRows(t, "Rebuild", back, err, word)
			mustBeWord(t, "Check", c, word)
		}
	}
}

// A code may be used by many at once.
func TestManyUseOneCode(t *testing.T) {
	s := shape{4, 3}
	c := mustNew(t, s)
	word := someWord(s, 50, 1)
	var all sync.WaitGroup
	for range 8 {
		all.Go(func() {
			for range 20 {
				if back, err := c.Rebuild(without(word, upTo(s.m))); err != 0 || !same(back, word) {
					t.Error("Rebuild beside others")
				}
				if got, err := c.Encode(word[:s.k]); err != 0 || !same(got, word) {
					t.Error("Encode beside others")
				}
				c.Matrix()
				c.Check(word)
				c.Turn(word, 1, word[0])
			}
		})
	}
	all.Wait()
}

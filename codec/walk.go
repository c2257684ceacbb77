package codec

import "cairn/api"

// walk is a reading on its way: what it has not gone over yet. It gives up by a panic with the number of its error.
type walk struct {
	left []byte
}

// reading is what a reader's face does in each reading. It goes over the reader's bytes by a walk of its own: so nothing has changed, if that gives up, but the fault.
func reading[A any](r *Reader, read func(*walk) A) (answer A) {
	if r.Fault() != api.OK {
		return answer
	}
	defer func() {
		if refused, is := recover().(api.Errno); is {
			r.fault = refused
		}
	}()
	w := walk{left: r.left}
	answer = read(&w)
	r.left = w.left
	return answer
}

// needCounts gives up if one of the numbers is below 0.
func needCounts(numbers ...int) {
	for _, n := range numbers {
		if n < 0 {
			panic(api.ErrArg)
		}
	}
}

// next goes over n bytes. They are the reader's own.
func (w *walk) next(n int) []byte {
	if n > len(w.left) {
		panic(api.ErrCut)
	}
	gone := w.left[:n]
	w.left = w.left[n:]
	return gone
}

// number goes over what Put writes of a number of the kind T. (P7.6)
func number[T Unsigned](w *walk) T {
	var v uint64
	for i, x := range w.next(width[T]()) {
		v |= uint64(x) << (8 * i)
	}
	return T(v)
}

// short goes over a short form. It ends with the tenth byte at the latest: one that says that it goes on is too great there. (P7.7)
func (w *walk) short() uint64 {
	var v uint64
	for i := 0; ; i++ {
		x := w.next(1)[0]
		if i == mostBytes-1 && x > 1 {
			panic(api.ErrOver)
		}
		v |= uint64(x%goesOn) << (groupBits * i)
		if x >= goesOn {
			continue
		}
		if x == 0 && i > 0 {
			panic(api.ErrOver)
		}
		return v
	}
}

// folded goes over the short form of a number that was folded. (P7.7)
func (w *walk) folded() int64 {
	v, _ := Zag[int64](w.short())
	return v
}

// count goes over a short form that is at most so much.
func (w *walk) count(most int) int {
	n := w.short()
	if n > uint64(most) {
		panic(api.ErrOver)
	}
	return int(n)
}

// block goes over a block of at most so many bytes. (P7.8)
func (w *walk) block(most int) []byte {
	return w.next(w.count(most))
}

// texts goes over at most so many texts, each of at most so many bytes. (P7.8)
func (w *walk) texts(most, each int) []string {
	var texts []string
	// No room is made ahead: the number may say far more than follows.
	for range w.count(most) {
		texts = append(texts, string(w.block(each)))
	}
	return texts
}

package codec

import "cairn/api"

// Reader reads bytes from their beginning on. Its zero value is one of no bytes. (P7.5)
type Reader struct {
	left  []byte
	fault api.Errno
}

// Open is a reader of the bytes that b has now. (P7.5)
func Open(b []byte) *Reader {
	return &Reader{left: anew(b, 0)}
}

// Take reads a number of the kind T. (P7.6)
func Take[T Unsigned](r *Reader) T {
	return reading(r, number[T])
}

// Uvarint reads a short form. (P7.7)
func (r *Reader) Uvarint() uint64 {
	return reading(r, (*walk).short)
}

// Varint reads the short form of a number that was folded. (P7.7)
func (r *Reader) Varint() int64 {
	return reading(r, (*walk).folded)
}

// Bytes reads n bytes. (P7.8)
func (r *Reader) Bytes(n int) []byte {
	return reading(r, func(w *walk) []byte {
		needCounts(n)
		return anew(w.next(n), 0)
	})
}

// Block reads a block of at most so many bytes. (P7.8)
func (r *Reader) Block(most int) []byte {
	return reading(r, func(w *walk) []byte {
		needCounts(most)
		return anew(w.block(most), 0)
	})
}

// Texts reads at most so many texts, each of at most so many bytes. (P7.8)
func (r *Reader) Texts(most, each int) []string {
	return reading(r, func(w *walk) []string {
		needCounts(most, each)
		return w.texts(most, each)
	})
}

// Left is how many bytes are left. (P7.9)
func (r *Reader) Left() int {
	if r == nil {
		return 0
	}
	return len(r.left)
}

// Fault is the error of the reading that was refused, if one was. (P7.9)
func (r *Reader) Fault() api.Errno {
	if r == nil {
		return api.ErrNil
	}
	return r.fault
}

// End is OK, if all was read without a fault. (P7.9)
func (r *Reader) End() api.Errno {
	if fault := r.Fault(); fault != api.OK {
		return fault
	}
	if r.Left() > 0 {
		return api.ErrTail
	}
	return api.OK
}

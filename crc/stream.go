package crc

// progress is how far a Stream has come. The register is kept with each bit turned, as the sum is: so the zero value is one that went over nothing.
type progress struct {
	count    uint64
	register uint32
}

// Stream sums what is written to it. Its zero value is one to which nothing was written; a copy goes its own way. (P6.5)
type Stream struct {
	progress
}

// Write writes b behind what was written. (P6.5)
func (s *Stream) Write(b []byte) {
	if s == nil {
		return
	}
	s.register = More(s.register, b)
	s.count += uint64(len(b))
}

// Sum is the sum of all that was written since the last Reset. (P6.5)
func (s *Stream) Sum() uint32 {
	if s == nil {
		return 0
	}
	return s.register
}

// Len is how many bytes were written since the last Reset, modulo 2^64. (P6.5)
func (s *Stream) Len() uint64 {
	if s == nil {
		return 0
	}
	return s.count
}

// Reset makes it one to which nothing was written. (P6.5)
func (s *Stream) Reset() {
	if s == nil {
		return
	}
	*s = Stream{}
}

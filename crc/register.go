package crc

// castagnoli is the polynomial without its x^32; the lowest bit is the coefficient of x^31, as in the register.
const castagnoli register = 0x82F63B78

// register is what goes over bytes, bit by bit.
type register uint32

// step lets one bit fall out. A mask in place of a branch: which bit falls out can't be foreseen, and wrong guesses cost more than the sum.
func (r register) step() register {
	return r>>1 ^ castagnoli&-(r&1)
}

// steps lets n bits fall out.
func (r register) steps(n int) register {
	for range n {
		r = r.step()
	}
	return r
}

// over goes over the bytes, half a byte at a time.
func (r register) over(b []byte) register {
	table := halves()
	for _, x := range b {
		r ^= register(x)
		r = r>>4 ^ table[r&15]
		r = r>>4 ^ table[r&15]
	}
	return r
}

// halves are what the register makes of each half of a byte that falls out.
func halves() [16]register {
	var table [16]register
	for half := range &table {
		table[half] = register(half).steps(4)
	}
	return table
}

// overZeros goes over n zero bytes, in as many strides as n has digits of two.
func (r register) overZeros(n int) register {
	for s := oneByte(); n > 0; n >>= 1 {
		if n&1 == 1 {
			r = s.of(r)
		}
		s = s.doubled()
	}
	return r
}

// stride is a going over some zero bytes: what it makes of each of the register's bits alone. This is enough, since it makes of two registers together, by exclusive or, what it makes of each.
type stride [32]register

// oneByte is the going over one zero byte.
func oneByte() stride {
	var s stride
	for i := range &s {
		s[i] = (register(1) << i).steps(8)
	}
	return s
}

// of is what the stride makes of r.
func (s stride) of(r register) register {
	var made register
	for i, x := range &s {
		made ^= x & -(r >> i & 1)
	}
	return made
}

// doubled is the going over twice as many bytes.
func (s stride) doubled() stride {
	once := s // a copy: all of it is needed till the last number is made
	for i, x := range &once {
		s[i] = once.of(x)
	}
	return s
}

package field

// Bit is an element of the field of two: false is its zero, true its one.
type Bit bool

// Plus tells whether the two are unlike. (P1.7)
func (a Bit) Plus(b Bit) Bit { return a != b }

// Times tells whether both are true. (P1.7)
func (a Bit) Times(b Bit) Bit { return a && b }

// Inverse is true of true; of false there is none. (P1.7)
func (a Bit) Inverse() (Bit, bool) { return a, bool(a) }

// IsZero tells whether it is false. (P1.7)
func (a Bit) IsZero() bool { return !bool(a) }

package codec

// Zig is v folded: so numbers near 0 have short forms of few bytes, whatever their sign. (P7.3)
func Zig[T Signed](v T) uint64 {
	twice := uint64(v) << 1
	if v < 0 {
		// All bits turned, -2v - 1 is what 2v is.
		return ^twice
	}
	return twice
}

// Zag is the number of the kind T that is u when it is folded, and true; 0 and false, if T has none. (P7.3)
func Zag[T Signed](u uint64) (T, bool) {
	wide := int64(u >> 1)
	if u%2 == 1 {
		wide = ^wide
	}
	v := T(wide)
	if int64(v) != wide {
		return 0, false
	}
	return v, true
}

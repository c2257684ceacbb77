package health

import (
	"slices"

	"cairn/api"
)

// Chance is the chance that more than most of the drives fail, each of which fails by a chance of its own. (P27.6)
func Chance(fail []float64, most int) (float64, api.Errno) {
	if len(fail) > api.MaxDrives {
		return 0, api.ErrLarge
	}
	if most < 0 || slices.ContainsFunc(fail, isNoChance) {
		return 0, api.ErrArg
	}
	just := []float64{1}
	for _, f := range fail {
		just = withOneMore(just, f)
	}
	sum := 0.0
	for j := len(just) - 1; j > most; j-- {
		sum += just[j]
	}
	// All of them can come to a little more than 1, for each was rounded.
	return min(sum, 1), api.OK
}

// isNoChance tells whether f is anything but a number from 0 to 1.
func isNoChance(f float64) bool { return !(0 <= f && f <= 1) }

// withOneMore is the chances that just so many drives fail, when one that fails by the chance f comes to those of just.
func withOneMore(just []float64, f float64) []float64 {
	g := 1 - f
	more := make([]float64, len(just)+1)
	for j := range more {
		var stands, fails float64
		// Each product is converted ahead of the sum: else one of them could be put together with it, with one rounding for both.
		if j < len(just) {
			stands = float64(just[j] * g)
		}
		if j > 0 {
			fails = float64(just[j-1] * f)
		}
		more[j] = stands + fails
	}
	return more
}

package health

import (
	"slices"

	"cairn/api"
)

const (
	maxSamples = 1 << 16
	maxSample  = 1 << 40
)

// Turn is what the samples come to, each turned by k quarters more than the one ahead of it: it is great, if they swing so. (P27.7)
func Turn(samples []float64, k int) (complex128, api.Errno) {
	if len(samples) > maxSamples {
		return 0, api.ErrLarge
	}
	if slices.ContainsFunc(samples, isNoSample) {
		return 0, api.ErrArg
	}
	var sum complex128
	for t, x := range samples {
		// The two lowest bits are the rest by 4, whatever the sign; only k's rest is taken times t, since k could be too great for that.
		switch (k & 3) * t & 3 {
		case 0:
			sum += complex(x, 0)
		case 1:
			sum += complex(0, x)
		case 2:
			sum -= complex(x, 0)
		case 3:
			sum -= complex(0, x)
		}
	}
	return sum, api.OK
}

// isNoSample tells whether x is anything but a number that may be measured.
func isNoSample(x float64) bool { return !(-maxSample <= x && x <= maxSample) }

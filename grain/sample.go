package grain

import "math"

const (
	levels = 32768 // the samples of one sign: so many to a level of 1

	// wholes is even, and so great that the floats about it are the whole numbers: what is added to it is rounded to a whole number, of two that are as near to the even one.
	wholes = 3 << 51
)

// Sample is the sample that is nearest to v's level, and whether v lies within the samples.
func Sample(v float64) (int16, bool) {
	if math.IsNaN(v) {
		return 0, false
	}
	near := float64(v*levels) + wholes - wholes
	switch {
	case near >= levels:
		return levels - 1, false
	case near < -levels:
		return -levels, false
	}
	return int16(near), true
}

// Level is the sample's level.
func Level(s int16) float64 { return float64(s) / levels }

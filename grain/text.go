package grain

import (
	"math"
	"strconv"
	"strings"

	"diapason/api"
)

const (
	textDigits = 16                 // digits of a float's text
	noNumber   = 0x7ff8000000000001 // the bits that are told of all that is no number
)

// Same tells whether two floats have the same bits, or both are no numbers.
func Same(a, b float64) bool { return bitsOf(a) == bitsOf(b) }

// bitsOf are a float's bits, those of noNumber for all that is no number.
func bitsOf(v float64) uint64 {
	if math.IsNaN(v) {
		return noNumber
	}
	return math.Float64bits(v)
}

// Text is the digits of v's bits.
func Text(v float64) string {
	digits := strconv.FormatUint(bitsOf(v), 16)
	return strings.Repeat("0", textDigits-len(digits)) + digits
}

// Parse reads what Text tells, and that form alone.
func Parse(s string) (float64, api.Errno) {
	if len(s) != textDigits {
		return 0, api.ErrForm
	}
	bits, err := strconv.ParseUint(s, 16, 64)
	v := math.Float64frombits(bits)
	// A float has one text alone: what the float does not make again is another form of it, or of what is no number.
	if err != nil || Text(v) != s {
		return 0, api.ErrForm
	}
	return v, api.OK
}

package disc

import (
	"math"
	"math/bits"

	"diapason/grain"
)

const (
	fractionBits = 52    // a float's lower bits; with the one ahead of them they are its count
	leastUnit    = -1074 // of the least floats: a float is its count times 2 to the power of its unit
)

// length is |x, y|_ and |x, y|^, of finite x and y: by whole numbers, so that no square is too great or too small.
func length(x, y float64) (down, up float64) {
	x, y = math.Abs(x), math.Abs(y)
	great, less := max(x, y), min(x, y)
	if less == 0 {
		return great, great
	}
	count, unit := parts(great)
	second, secondUnit := parts(less)
	apart := unit - secondUnit
	squares := square(count).plus(square(second).over(2 * apart))
	root := squares.root()
	isExact := square(root) == squares && bits.TrailingZeros64(second) >= apart
	if root>>fractionBits > 1 {
		// It has a bit more than a float, and so its unit is twice as great.
		isExact = isExact && root%2 == 0
		root -= root % 2
	}
	down = math.Ldexp(float64(root), unit)
	switch {
	case math.IsInf(down, 1):
		return grain.Next(down, false), down
	case isExact:
		return down, down
	}
	return down, grain.Next(down, true)
}

// parts are the count and the unit of a float that is finite and not below 0.
func parts(v float64) (count uint64, unit int) {
	all := math.Float64bits(v)
	count, power := all&(1<<fractionBits-1), int(all>>fractionBits)
	if power == 0 {
		return count, leastUnit
	}
	return count | 1<<fractionBits, leastUnit + power - 1
}

// wide is a whole number below 2^128.
type wide struct{ high, low uint64 }

// square is n times n.
func square(n uint64) wide {
	high, low := bits.Mul64(n, n)
	return wide{high, low}
}

// plus is the sum, which is below 2^128.
func (w wide) plus(v wide) wide {
	low, carry := bits.Add64(w.low, v.low, 0)
	return wide{w.high + v.high + carry, low}
}

// over is w over 2^n, rounded down.
func (w wide) over(n int) wide {
	if n >= 64 {
		return wide{0, w.high >> (n - 64)}
	}
	return wide{w.high >> n, w.high<<(64-n) | w.low>>n}
}

// isAbove tells whether w is above v.
func (w wide) isAbove(v wide) bool {
	return w.high > v.high || w.high == v.high && w.low > v.low
}

// root is the greatest whole number whose square is not above w, which is below 2^108.
func (w wide) root() uint64 {
	near := uint64(math.Sqrt(float64(w.high)*(1<<64) + float64(w.low)))
	// The float's root is off by a few at most.
	for square(near).isAbove(w) {
		near--
	}
	for !square(near + 1).isAbove(w) {
		near++
	}
	return near
}

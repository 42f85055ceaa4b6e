package grain

import "math"

// Add is the two floats between which a + b lies, exactly.
func Add(a, b float64) (down, up float64) {
	own := a + b
	if !isFinite(a) || !isFinite(b) {
		return own, own
	}
	return sides(own, lostBy(own, a, b))
}

// Two is a + b, rounded, and what that has lost.
func Two(a, b float64) (sum, lost float64) {
	sum = a + b
	if !isFinite(sum) {
		return sum, 0
	}
	return sum, unsigned(lostBy(sum, a, b))
}

// lostBy is the exact sum of two finite floats less sum, which is the rounded one. With the greater one taken off first both differences are exact, and do not go beyond the floats where the sum does not (Dekker's way).
func lostBy(sum, a, b float64) float64 {
	if math.Abs(a) < math.Abs(b) {
		a, b = b, a
	}
	return b - (sum - a)
}

// Mul is the two floats between which a times b lies, exactly.
func Mul(a, b float64) (down, up float64) {
	own := a * b
	if !isFinite(a) || !isFinite(b) {
		return own, own
	}
	x, m := math.Frexp(a)
	y, n := math.Frexp(b)
	// What is left may be below the least float; in the measure of x and y, which are from 1/2 to 1, it is not.
	return sides(own, math.FMA(x, y, -math.Ldexp(own, -m-n)))
}

// Quo is the two floats between which a over b lies, exactly.
func Quo(a, b float64) (down, up float64) {
	own := a / b
	if !isFinite(a) || !isFinite(b) || b == 0 {
		return own, own
	}
	x, m := math.Frexp(a)
	y, n := math.Frexp(b)
	// In the measure of x and y, as in Mul; what a is above own times b says on which side the quotient lies, but for b's sign.
	rest := math.FMA(-math.Ldexp(own, n-m), y, x)
	if b < 0 {
		rest = -rest
	}
	return sides(own, rest)
}

// Package residue reckons with the residues of a prime, and with polynomials of them: an image of numbers that would grow too great on their way.
package residue

import "math/bits"

// Prime is an odd prime below 2^63, so that sums of two residues are within a word. A residue of it is a number below it.
type Prime uint64

// Greatest is the greatest of them.
const Greatest Prime = 1<<63 - 25

// bases are enough to tell primes from other numbers, up to 2^64 and beyond.
var bases = [...]uint64{2, 3, 5, 7, 11, 13, 17, 19, 23, 29, 31, 37}

// Next is the next lower prime.
func (p Prime) Next() Prime {
	n := p - 2
	for !n.isPrime() {
		n -= 2
	}
	return n
}

// isPrime tells whether an odd number is a prime, by Miller and Rabin's test.
func (p Prime) isPrime() bool {
	for _, base := range bases {
		if uint64(p)%base == 0 {
			return uint64(p) == base
		}
	}
	for _, base := range bases {
		if !p.passes(base) {
			return false
		}
	}
	return true
}

// passes tells whether the powers of a base are those of a prime; of one that is none some base's are not.
func (p Prime) passes(base uint64) bool {
	twos := bits.TrailingZeros64(uint64(p) - 1)
	power := p.Power(base, (uint64(p)-1)>>twos)
	if power == 1 {
		return true
	}
	for range twos {
		if power == uint64(p)-1 {
			return true
		}
		power = p.Mul(power, power)
	}
	return false
}

// Power is the residue of x^n.
func (p Prime) Power(x, n uint64) uint64 {
	power := uint64(1)
	for ; n > 0; n >>= 1 {
		if n&1 != 0 {
			power = p.Mul(power, x)
		}
		x = p.Mul(x, x)
	}
	return power
}

// Sub is the residue of x - y.
func (p Prime) Sub(x, y uint64) uint64 {
	if x < y {
		return x + uint64(p) - y
	}
	return x - y
}

// Mul is the residue of x y.
func (p Prime) Mul(x, y uint64) uint64 {
	high, low := bits.Mul64(x, y)
	_, rest := bits.Div64(high, low, uint64(p))
	return rest
}

// Inverse is the residue whose product with x is 1; 0, if x is 0.
func (p Prime) Inverse(x uint64) uint64 {
	a, b := uint64(p), x
	// At each step a is r x and b is s x, but for a multiple of p.
	var r, s uint64 = 0, 1
	for b != 0 {
		quotient := a / b
		a, b = b, a%b
		r, s = s, p.Sub(r, p.Mul(quotient%uint64(p), s))
	}
	return r
}

// Gcd is the polynomial of the greatest degree that goes into both, with the highest coefficient 1; none, if both are 0. Coefficients are residues, the lowest first, the last one not 0.
func (p Prime) Gcd(f, g []uint64) []uint64 {
	for len(g) > 0 {
		f, g = g, p.rest(f, g)
	}
	if len(f) == 0 {
		return nil
	}
	return p.Scale(f, p.Inverse(f[len(f)-1]))
}

// Scale is each coefficient times x.
func (p Prime) Scale(f []uint64, x uint64) []uint64 {
	scaled := make([]uint64, len(f))
	for i, c := range f {
		scaled[i] = p.Mul(c, x)
	}
	return scaled
}

// rest is what is left of f over g, which is not 0.
func (p Prime) rest(f, g []uint64) []uint64 {
	rest := p.Scale(f, 1)
	inverse := p.Inverse(g[len(g)-1])
	for len(rest) >= len(g) {
		times := p.Mul(rest[len(rest)-1], inverse)
		top := rest[len(rest)-len(g):]
		for i, c := range g {
			top[i] = p.Sub(top[i], p.Mul(times, c))
		}
		rest = trim(rest)
	}
	return rest
}

// trim leaves the noughts at the end away.
func trim(f []uint64) []uint64 {
	n := len(f)
	for n > 0 && f[n-1] == 0 {
		n--
	}
	return f[:n]
}

package nat

import "math/bits"

// Gcd is the greatest number that goes into both; of nought and another one that one.
func (x Nat) Gcd(y Nat) Nat {
	if x.IsOne() || y.IsOne() {
		return Of(1)
	}
	if x.Cmp(y) < 0 {
		x, y = y, x
	}
	a, b := x, y
	if len(b) > 1 {
		a, b = x.clone(), y.clone()
	}
	for len(b) > 1 {
		s := firstSteps(a, b)
		if s.q == 0 {
			_, rest := a.QuoRem(b)
			a, b = b, rest
			continue
		}
		a, b = s.apply(a, b)
	}
	if len(b) == 0 {
		return a
	}
	return Of(gcdWords(b[0], a.RestWord(b[0])))
}

// RestWord is the rest of x over w; 0, if w is 0.
func (x Nat) RestWord(w uint64) uint64 {
	var rest uint64
	if w == 0 {
		return 0
	}
	for i := len(x) - 1; i >= 0; i-- {
		_, rest = bits.Div64(rest, x[i], w)
	}
	return rest
}

// Lcm is the least number above nought into which both go; nought, if one is nought.
func (x Nat) Lcm(y Nat) Nat {
	return x.Mul(y.Quo(x.Gcd(y)))
}

// gcdWords goes by Euclid's steps.
func gcdWords(a, b uint64) uint64 {
	for b != 0 {
		a, b = b, a%b
	}
	return a
}

// steps are several of Euclid's steps in one, Lehmer's way: they make a and b into p a - q b and s b - r a, or, if turned, into q b - p a and r a - s b.
type steps struct {
	p, q, r, s uint64
	turned     bool
}

// firstSteps are the steps that the highest 64 bits of a, and those of b at the same places, settle whatever stands behind them; q is 0, if they settle none. a is not below b, and b has two words at least.
func firstSteps(a, b Nat) steps {
	n := len(a)
	shift := bits.LeadingZeros64(a[n-1])
	x := a[n-1]<<shift | a[n-2]>>(64-shift)
	y := word(b, n-1)<<shift | word(b, n-2)>>(64-shift)
	now := steps{p: 1, s: 1}
	for y != 0 {
		quotient := x / y
		x, y = y, x%y
		next := steps{now.r, now.s, now.p + quotient*now.r, now.q + quotient*now.s, !now.turned}
		// Collins' condition: without it the quotient of a and b may be another one.
		if y < next.s || x-y < next.q+next.s {
			break
		}
		now = next
	}
	return now
}

// apply does the steps; it writes over a and b.
func (s steps) apply(a, b Nat) (Nat, Nat) {
	if len(b) < len(a) {
		// It is one word short at most: else no step had been settled.
		b = append(b, 0)
	}
	if s.turned {
		mix(b, a, s.q, s.p, s.s, s.r)
		return b.trim(), a.trim()
	}
	mix(a, b, s.p, s.q, s.r, s.s)
	return a.trim(), b.trim()
}

// mix makes x and y, which have as many words, into p x - q y and s y - r x, neither of which is below nought.
func mix(x, y Nat, p, q, r, s uint64) {
	var overP, overQ, overR, overS, lentX, lentY uint64
	for i := range x {
		v, w := x[i], y[i]
		var plus, minus uint64
		plus, overP = timesPlus(v, p, overP)
		minus, overQ = timesPlus(w, q, overQ)
		x[i], lentX = bits.Sub64(plus, minus, lentX)
		plus, overS = timesPlus(w, s, overS)
		minus, overR = timesPlus(v, r, overR)
		y[i], lentY = bits.Sub64(plus, minus, lentY)
	}
}

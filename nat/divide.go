package nat

import "math/bits"

// QuoRem is the quotient and the rest; of y = 0 nought and x, so that x is q y + r in all cases.
func (x Nat) QuoRem(y Nat) (q, r Nat) {
	switch {
	case len(y) == 0 || x.Cmp(y) < 0:
		return nil, x
	case y.IsOne():
		return x, nil
	case len(y) == 1:
		q = x.clone()
		rest := q.quoWord(y[0])
		return q.trim(), Of(rest)
	}
	// With the divisor's top bit set each guess at a digit is at most 2 too great.
	shift := bits.LeadingZeros64(y[len(y)-1])
	divisor := y.shifted(shift)[:len(y)]
	rest := x.shifted(shift)
	q = make(Nat, len(x)-len(y)+1)
	for i := len(q) - 1; i >= 0; i-- {
		q[i] = takeDigit(rest[i:i+len(y)+1], divisor)
	}
	return q.trim(), rest.shiftedBack(shift)
}

// Quo is the quotient alone.
func (x Nat) Quo(y Nat) Nat {
	q, _ := x.QuoRem(y)
	return q
}

// quoWord divides x by w, in place, and tells the rest.
func (x Nat) quoWord(w uint64) uint64 {
	var rest uint64
	for i := len(x) - 1; i >= 0; i-- {
		x[i], rest = bits.Div64(rest, x[i], w)
	}
	return rest
}

// shifted is x times 2^n, n below 64, with one word more than x, even if that is 0.
func (x Nat) shifted(n int) Nat {
	z := make(Nat, len(x)+1)
	for i, w := range x {
		z[i] |= w << n
		z[i+1] = w >> (64 - n)
	}
	return z
}

// shiftedBack is x over 2^n, n below 64, rounded down; it is done in place.
func (x Nat) shiftedBack(n int) Nat {
	for i := range x {
		x[i] = x[i]>>n | word(x, i+1)<<(64-n)
	}
	return x.trim()
}

// takeDigit takes y as often as it goes out of x, which has one word more, and tells how often.
func takeDigit(x, y Nat) uint64 {
	digit := guessDigit(x, y)
	for lent := subProduct(x, y, digit); lent; {
		digit--
		lent = !addBack(x, y)
	}
	return digit
}

// guessDigit is a digit from the highest words; it is never too small.
func guessDigit(x, y Nat) uint64 {
	n := len(y)
	if x[n] >= y[n-1] {
		return 1<<64 - 1
	}
	digit, rest := bits.Div64(x[n], x[n-1], y[n-1])
	for {
		high, low := bits.Mul64(digit, y[n-2])
		if high < rest || high == rest && low <= x[n-2] {
			return digit
		}
		digit--
		sum, carry := bits.Add64(rest, y[n-1], 0)
		if carry != 0 {
			return digit
		}
		rest = sum
	}
}

// subProduct takes y times w from x, which has one word more, and tells whether that went below nought.
func subProduct(x, y Nat, w uint64) bool {
	var over, lent uint64
	for i, v := range y {
		var low uint64
		low, over = timesPlus(v, w, over)
		x[i], lent = bits.Sub64(x[i], low, lent)
	}
	x[len(y)], lent = bits.Sub64(x[len(y)], over, lent)
	return lent != 0
}

// addBack adds y to x, which has one word more, and tells whether x is above nought again.
func addBack(x, y Nat) bool {
	var over uint64
	for i, v := range y {
		x[i], over = bits.Add64(x[i], v, over)
	}
	x[len(y)], over = bits.Add64(x[len(y)], 0, over)
	return over != 0
}

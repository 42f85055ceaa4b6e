// Package nat reckons with natural numbers of any size: the document bounds answers alone, not what lies between a question and its answer.
package nat

import "math/bits"

// Nat is a natural number: its words, the lowest first, the last one not 0; nought has none. No function here changes what it is handed, but answers may share words with it.
type Nat []uint64

// Of is the number n.
func Of(n uint64) Nat {
	if n == 0 {
		return nil
	}
	return Nat{n}
}

// FromBytes is the number of these bytes, the highest first.
func FromBytes(s string) Nat {
	x := make(Nat, (len(s)+7)/8)
	for i := range len(s) {
		at := len(s) - 1 - i
		x[i/8] |= uint64(s[at]) << (i % 8 * 8)
	}
	return x.trim()
}

// Size is how many bytes the number has.
func (x Nat) Size() int {
	if len(x) == 0 {
		return 0
	}
	top := x[len(x)-1]
	return len(x)*8 - bits.LeadingZeros64(top)/8
}

// Bits is how many binary digits the number has.
func (x Nat) Bits() int {
	if len(x) == 0 {
		return 0
	}
	return len(x)*64 - bits.LeadingZeros64(x[len(x)-1])
}

// Bytes are the number's bytes, the highest first, without a 0 ahead.
func (x Nat) Bytes() string {
	s := make([]byte, x.Size())
	for i := range s {
		s[len(s)-1-i] = byte(x[i/8] >> (i % 8 * 8))
	}
	return string(s)
}

// IsOne tells whether the number is 1.
func (x Nat) IsOne() bool { return len(x) == 1 && x[0] == 1 }

// Word is the number, and true, if it has one word at most.
func (x Nat) Word() (uint64, bool) {
	switch len(x) {
	case 0:
		return 0, true
	case 1:
		return x[0], true
	}
	return 0, false
}

// Cmp is -1, 0 or 1, as x is below y, the same, above it.
func (x Nat) Cmp(y Nat) int {
	if len(x) != len(y) {
		return order(len(x) < len(y))
	}
	for i := len(x) - 1; i >= 0; i-- {
		if x[i] != y[i] {
			return order(x[i] < y[i])
		}
	}
	return 0
}

// order is -1 of what is below, 1 of what is above.
func order(below bool) int {
	if below {
		return -1
	}
	return 1
}

// Add is the sum.
func (x Nat) Add(y Nat) Nat {
	if len(x) < len(y) {
		x, y = y, x
	}
	z := make(Nat, len(x)+1)
	copy(z, x)
	var over uint64
	for i := range x {
		z[i], over = bits.Add64(x[i], word(y, i), over)
	}
	z[len(x)] = over
	return z.trim()
}

// Sub is the difference; nought, if y is above x.
func (x Nat) Sub(y Nat) Nat {
	if x.Cmp(y) < 0 {
		return nil
	}
	z := make(Nat, len(x))
	var lent uint64
	for i := range x {
		z[i], lent = bits.Sub64(x[i], word(y, i), lent)
	}
	return z.trim()
}

// Sum adds two whole numbers, each with a sign; 0 has none.
func Sum(xNeg bool, x Nat, yNeg bool, y Nat) (bool, Nat) {
	if xNeg == yNeg {
		return xNeg, x.Add(y)
	}
	switch x.Cmp(y) {
	case 1:
		return xNeg, x.Sub(y)
	case -1:
		return yNeg, y.Sub(x)
	}
	return false, nil
}

// Mul is the product.
func (x Nat) Mul(y Nat) Nat {
	switch {
	case len(x) == 0 || len(y) == 0:
		return nil
	case x.IsOne():
		return y
	case y.IsOne():
		return x
	}
	z := make(Nat, len(x)+len(y))
	for i, w := range x {
		z[i+len(y)] = addProduct(z[i:i+len(y)], y, w)
	}
	return z.trim()
}

// Shl is x times 2^n; x, if n is not above 0.
func (x Nat) Shl(n int) Nat {
	if len(x) == 0 || n <= 0 {
		return x
	}
	z := make(Nat, n/64+len(x)+1)
	copy(z[n/64:], x.shifted(n%64))
	return z.trim()
}

// Shr is x over 2^n, rounded down; x, if n is not above 0.
func (x Nat) Shr(n int) Nat {
	if n <= 0 {
		return x
	}
	if n/64 >= len(x) {
		return nil
	}
	return x[n/64:].clone().shiftedBack(n % 64)
}

// Twos is how many times 2 goes into x; 0, if x is nought.
func (x Nat) Twos() int {
	for i, w := range x {
		if w != 0 {
			return i*64 + bits.TrailingZeros64(w)
		}
	}
	return 0
}

// addProduct adds y times w to z, which has as many words, and tells the word that goes beyond.
func addProduct(z, y Nat, w uint64) uint64 {
	var over uint64
	for i, v := range y {
		low, high := timesPlus(v, w, over)
		var carry uint64
		z[i], carry = bits.Add64(z[i], low, 0)
		over = high + carry
	}
	return over
}

// timesPlus is v w + more, its lower and its higher word.
func timesPlus(v, w, more uint64) (low, high uint64) {
	high, low = bits.Mul64(v, w)
	low, carry := bits.Add64(low, more, 0)
	return low, high + carry
}

// word is the word at i; 0 behind the end.
func word(x Nat, i int) uint64 {
	if i < len(x) {
		return x[i]
	}
	return 0
}

// trim leaves the noughts at the end away.
func (x Nat) trim() Nat {
	n := len(x)
	for n > 0 && x[n-1] == 0 {
		n--
	}
	return x[:n]
}

// clone has the same words in memory of its own, with room for one more.
func (x Nat) clone() Nat {
	z := make(Nat, len(x), len(x)+1)
	copy(z, x)
	return z
}

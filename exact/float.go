package exact

import (
	"math"

	"diapason/nat"
)

const (
	floatBits = 53    // binary digits of a float
	leastUnit = -1074 // 2^leastUnit is the least float above nought
)

// Float is the float that is nearest to the number, of two that are as near the one whose last bit is 0; infinite, if that is 2^1024 or more, or -2^1024 or less. A nought has no sign.
func (x Number) Float() float64 {
	if x.Sign() == 0 {
		return 0
	}
	unit := max(x.log2()-floatBits+1, leastUnit)
	count := nearestQuo(x.num.Shl(-unit), x.den.Shl(unit))
	near := math.Ldexp(float64(count), unit)
	if x.neg && count > 0 {
		return -near
	}
	return near
}

// log2 is the greatest n for which 2^n is not above the number without its sign; that is not nought.
func (x Number) log2() int {
	n := x.num.Bits() - x.den.Bits()
	if x.num.Shl(-n).Cmp(x.den.Shl(n)) < 0 {
		return n - 1
	}
	return n
}

// nearestQuo is the whole number that is nearest to num / den, of two that are as near the even one. It has one word at most.
func nearestQuo(num, den nat.Nat) uint64 {
	quo, rest := num.QuoRem(den)
	n, _ := quo.Word()
	switch rest.Shl(1).Cmp(den) {
	case 1:
		return n + 1
	case 0:
		return n + n&1
	}
	return n
}

// FromFloat is what a float is worth, and whether the float is finite.
func FromFloat(v float64) (Number, bool) {
	if math.IsNaN(v) || math.IsInf(v, 0) {
		return Number{}, false
	}
	part, exponent := math.Frexp(math.Abs(v))
	count := nat.Of(uint64(math.Ldexp(part, floatBits)))
	unit := exponent - floatBits
	return Of(v < 0, count.Shl(unit), nat.Of(1).Shl(-unit)), true
}

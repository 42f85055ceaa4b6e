// Package near reckons with whole numbers times powers of two of which the first binary digits alone are kept, and with how far that may be off: most signs are told by few digits, whatever size the exact numbers have.
package near

import (
	"math/bits"

	"diapason/nat"
)

// farDown is below the size and the unit of any number that is reckoned with.
const farDown = -1 << 30

// offBits is how many binary digits an error may have; a greater one makes the unit coarser.
const offBits = 32

// Digits is how many binary digits of each number are kept. What has no more of them stays exact, so that with enough of them all sums and products are.
type Digits int

// Number stands for all numbers that are no farther than off 2^exp from abs 2^exp, or from -abs 2^exp. The zero value is nought, exactly.
type Number struct {
	neg bool
	abs nat.Nat
	off uint64
	exp int
}

// Of is the whole number n, with that sign.
func (d Digits) Of(neg bool, n nat.Nat) Number {
	twos := n.Twos()
	return d.cut(Number{neg: neg, abs: n.Shr(twos), exp: twos})
}

// Sign is -1, 0 or 1, and true, if that is the sign of all numbers that x stands for; else 0 and false.
func (x Number) Sign() (int, bool) {
	switch {
	case x.isNought():
		return 0, true
	case x.abs.Cmp(nat.Of(x.off)) <= 0:
		return 0, false
	case x.neg:
		return -1, true
	}
	return 1, true
}

// Size is a number n for which 2^n is above all that x stands for, without their signs; of nought it is far below all others.
func (x Number) Size() int {
	if x.isNought() {
		return farDown
	}
	return max(x.abs.Bits(), bits.Len64(x.off)) + 1 + x.exp
}

// Floor is the middle of x times 2^n, rounded down to a whole number; 0, if it is below 0.
func (x Number) Floor(n int) nat.Nat {
	if x.neg {
		return nil
	}
	return x.abs.Shl(x.exp + n).Shr(-x.exp - n)
}

// Half is half of x.
func (x Number) Half() Number {
	x.exp--
	return x
}

// Neg is 0 less x.
func (x Number) Neg() Number {
	x.neg = !x.neg
	return x
}

// isNought tells whether x stands for nought alone.
func (x Number) isNought() bool { return len(x.abs) == 0 && x.off == 0 }

// Add stands for all sums.
func (d Digits) Add(x, y Number) Number {
	if x.isNought() {
		return y
	}
	if y.isNought() {
		return x
	}
	unit := max(min(x.exp, y.exp), x.finest(), y.finest(), max(x.Size(), y.Size())-int(d)-1)
	x, y = x.in(unit), y.in(unit)
	neg, abs := nat.Sum(x.neg, x.abs, y.neg, y.abs)
	return d.cut(Number{neg, abs, x.off + y.off, unit})
}

// Sub stands for all differences.
func (d Digits) Sub(x, y Number) Number { return d.Add(x, y.Neg()) }

// Mul stands for all products.
func (d Digits) Mul(x, y Number) Number {
	off := x.abs.Mul(nat.Of(y.off)).Add(y.abs.Mul(nat.Of(x.off))).Add(nat.Of(x.off).Mul(nat.Of(y.off)))
	return d.fit(x.neg != y.neg, x.abs.Mul(y.abs), off, x.exp+y.exp)
}

// Quo stands for all quotients; y stands for no nought.
func (d Digits) Quo(x, y Number) Number {
	shift := max(0, int(d)+1+y.abs.Bits()-x.abs.Bits())
	quo := x.abs.Shl(shift).Quo(y.abs)
	// Of x + a and y + b the quotient is off by (a y - b x) / (y (y + b)), and by 1 at most for what is rounded here, twice.
	off := nat.Of(x.off).Shl(shift).Add(quo.Add(nat.Of(1)).Mul(nat.Of(y.off)))
	off = off.Quo(y.abs.Sub(nat.Of(y.off))).Add(nat.Of(2))
	return d.fit(x.neg != y.neg, quo, off, x.exp-y.exp-shift)
}

// finest is the finest unit in which x may be told; what is exact may be told in any.
func (x Number) finest() int {
	if x.off == 0 {
		return farDown
	}
	return x.exp
}

// in is x told in another unit, which is not finer than its finest one.
func (x Number) in(unit int) Number {
	shift := unit - x.exp
	if shift <= 0 {
		return Number{x.neg, x.abs.Shl(-shift), x.off, unit}
	}
	off := coarser(x.off, shift)
	if x.abs.Twos() < shift && len(x.abs) > 0 {
		off++
	}
	return Number{x.neg, x.abs.Shr(shift), off, unit}
}

// coarser is off over 2^n, rounded up.
func coarser(off uint64, n int) uint64 {
	if off == 0 {
		return 0
	}
	return (off-1)>>n + 1
}

// cut keeps so many digits.
func (d Digits) cut(x Number) Number {
	shift := max(0, x.abs.Bits()-int(d), bits.Len64(x.off)-offBits)
	return x.in(x.exp + shift)
}

// fit keeps so many digits of a number whose error may have any size.
func (d Digits) fit(neg bool, abs, off nat.Nat, exp int) Number {
	shift := max(0, off.Bits()-offBits)
	word, _ := off.Shr(shift).Word()
	if off.Twos() < shift {
		word++
	}
	x := Number{neg, abs, 0, exp}.in(exp + shift)
	x.off += word
	return d.cut(x)
}

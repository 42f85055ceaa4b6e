package sturm

import (
	"slices"

	"diapason/exact"
	"diapason/nat"
	"diapason/near"
)

// stretch is a polynomial between two numbers, but for a factor above 0: with y going from 0 to 1 between them it is the sum of s[i] C(n, i) y^i (1 - y)^(n - i). So the first and the last coefficient have its signs at the ends.
type stretch []near.Number

// over is a polynomial of whole numbers from lo to hi; lo is below hi.
func over(p exact.Poly, lo, hi exact.Number, d near.Digits) stretch {
	below := exact.Whole(lo.Den().Lcm(hi.Den()))
	l := round(p, d).spread(below, d)
	l.shift(whole(lo.Mul(below), d), d)
	l.scale(whole(hi.Sub(lo).Mul(below), d), d)
	return l.weighed(d)
}

// weighed is the stretch from 0 to 1: there y^i is y^i times the (n - i)th power of y + (1 - y). All is taken so many times that whole numbers stay whole.
func (l coefs) weighed(d near.Digits) stretch {
	row := binomials(len(l) - 1)
	common := nat.Of(1)
	for _, c := range row {
		common = common.Lcm(nat.Of(c))
	}
	s := make(stretch, len(l))
	for i, c := range row {
		s[i] = d.Mul(l[i], d.Of(false, common.Quo(nat.Of(c))))
	}
	for i := 1; i < len(s); i++ {
		for k := len(s) - 1; k >= i; k-- {
			s[k] = d.Add(s[k], s[k-1])
		}
	}
	return s
}

// binomials are the n + 1 binomial coefficients of n, which is at most MaxDegree.
func binomials(n int) []uint64 {
	row := make([]uint64, n+1)
	row[0] = 1
	for i := range n {
		row[i+1] = row[i] * uint64(n-i) / uint64(i+1)
	}
	return row
}

// turns is how many times the sign changes along the coefficients, noughts left out, and whether all signs are sure. By Descartes' rule there are as many roots between the ends, or fewer by an even number.
func (s stretch) turns() (int, bool) {
	last, turns := 0, 0
	for _, c := range s {
		sign, sure := c.Sign()
		switch {
		case !sure:
			return 0, false
		case sign*last < 0:
			turns++
			last = sign
		case sign != 0:
			last = sign
		}
	}
	return turns, true
}

// rises is the sign right of the lower end: that of the first coefficient that is not nought.
func (s stretch) rises() int {
	for _, c := range s {
		if sign, _ := c.Sign(); sign != 0 {
			return sign
		}
	}
	return 0
}

// halves are the stretches from the lower end to the middle, and from there to the upper end, by de Casteljau's way.
func (s stretch) halves(d near.Digits) (left, right stretch) {
	left, right = make(stretch, len(s)), slices.Clone(s)
	for i := range left {
		left[i] = right[0]
		for k := range len(right) - 1 - i {
			right[k] = d.Add(right[k], right[k+1]).Half()
		}
	}
	return left, right
}

// isNought tells whether a number is surely nought.
func isNought(x near.Number) bool {
	sign, sure := x.Sign()
	return sure && sign == 0
}

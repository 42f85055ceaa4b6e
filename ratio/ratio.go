// Package ratio is layer 1: fractions, exactly, up to a bound of the answer; see shared/doc/01-ratio.md.
package ratio

import (
	"diapason/api"
	"diapason/exact"
)

// Check answers ErrArg, if x may not be.
func Check(x api.Frac) api.Errno {
	if _, ok := read(x); !ok {
		return api.ErrArg
	}
	return api.OK
}

// Of is num / den.
func Of(num, den int64) (api.Frac, api.Errno) {
	if den == 0 {
		return api.Frac{}, api.ErrZero
	}
	return answer(exact.Of((num < 0) != (den < 0), size(num), size(den)))
}

// Add is the sum.
func Add(x, y api.Frac) (api.Frac, api.Errno) {
	return reckon(func(x, y exact.Number) (exact.Number, api.Errno) {
		return x.Add(y), api.OK
	}, x, y)
}

// Sub is the difference.
func Sub(x, y api.Frac) (api.Frac, api.Errno) {
	return reckon(func(x, y exact.Number) (exact.Number, api.Errno) {
		return x.Sub(y), api.OK
	}, x, y)
}

// Mul is the product.
func Mul(x, y api.Frac) (api.Frac, api.Errno) {
	return reckon(func(x, y exact.Number) (exact.Number, api.Errno) {
		return x.Mul(y), api.OK
	}, x, y)
}

// Quo is the quotient.
func Quo(x, y api.Frac) (api.Frac, api.Errno) {
	return reckon(func(x, y exact.Number) (exact.Number, api.Errno) {
		if y.Sign() == 0 {
			return exact.Number{}, api.ErrZero
		}
		return x.Quo(y), api.OK
	}, x, y)
}

// Between is the simplest of the fractions between x and y, neither of which is one of them.
func Between(x, y api.Frac) (api.Frac, api.Errno) {
	return reckon(func(x, y exact.Number) (exact.Number, api.Errno) {
		if x.Cmp(y) >= 0 {
			return exact.Number{}, api.ErrArg
		}
		return simplest(x, y), api.OK
	}, x, y)
}

// reckon does with two fractions what it is handed.
func reckon(what func(x, y exact.Number) (exact.Number, api.Errno), x, y api.Frac) (api.Frac, api.Errno) {
	l, ok := read(x, y)
	if !ok {
		return api.Frac{}, api.ErrArg
	}
	n, e := what(l[0], l[1])
	if e != api.OK {
		return api.Frac{}, e
	}
	return answer(n)
}

// read takes fractions as numbers, and tells whether all of them may be.
func read(l ...api.Frac) ([]exact.Number, bool) {
	numbers := make([]exact.Number, len(l))
	for i, x := range l {
		n, ok := exact.Read(x)
		if !ok {
			return nil, false
		}
		numbers[i] = n
	}
	return numbers, true
}

// answer is the number as a fraction, or ErrLong.
func answer(n exact.Number) (api.Frac, api.Errno) {
	x, ok := n.Frac()
	if !ok {
		return api.Frac{}, api.ErrLong
	}
	return x, api.OK
}

// Cmp is -1, 0 or 1, as x is below y, the same, above it.
func Cmp(x, y api.Frac) (int, api.Errno) {
	l, ok := read(x, y)
	if !ok {
		return 0, api.ErrArg
	}
	return l[0].Cmp(l[1]), api.OK
}

// Sign is -1, 0 or 1, as x is below 0, nought or may not be, above 0.
func Sign(x api.Frac) int {
	l, ok := read(x)
	if !ok {
		return 0
	}
	return l[0].Sign()
}

// Floor is the greatest whole number that is not above x.
func Floor(x api.Frac) (api.Frac, api.Errno) {
	l, ok := read(x)
	if !ok {
		return api.Frac{}, api.ErrArg
	}
	return answer(l[0].Floor())
}

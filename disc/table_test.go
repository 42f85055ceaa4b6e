package disc_test

import (
	"math"
	"math/big"

	"diapason/api"
)

// What the chapter's words and its table say, worked out anew with the library's numbers.

// around are the two floats between which r lies, without signs of noughts.
func around(r *big.Rat) (down, up float64) {
	near, _ := r.Float64()
	down, up = near, near
	order := 0
	switch near {
	case above:
		order = 1
	case below:
		order = -1
	default:
		order = worth(near).Cmp(r)
	}
	switch order {
	case 1:
		down = math.Nextafter(near, below)
	case -1:
		up = math.Nextafter(near, above)
	}
	return down + 0, up + 0
}

// sides are grain's: of what is not finite Go's own answer, twice.
func sides(own float64, what func(x, y *big.Rat) *big.Rat, a, b float64) (down, up float64) {
	if !isFinite(a) || !isFinite(b) {
		return own, own
	}
	return around(what(worth(a), worth(b)))
}

func addDown(a, b float64) float64 { down, _ := sides(a+b, plus, a, b); return down }

func addUp(a, b float64) float64 { _, up := sides(a+b, plus, a, b); return up }

func mulDown(a, b float64) float64 { down, _ := sides(a*b, times, a, b); return down }

func mulUp(a, b float64) float64 { _, up := sides(a*b, times, a, b); return up }

func quoUp(a, b float64) float64 { _, up := sides(a/b, over, a, b); return up }

// roots are |x, y|_ and |x, y|^, found by going from float to float till the squares say so.
func roots(x, y float64) (down, up float64) {
	squares := plus(times(worth(x), worth(x)), times(worth(y), worth(y)))
	order := func(v float64) int {
		if v == above {
			return 1
		}
		return times(worth(v), worth(v)).Cmp(squares)
	}
	down = min(math.Hypot(x, y), greatest)
	for order(down) > 0 {
		down = math.Nextafter(down, below)
	}
	for order(math.Nextafter(down, above)) <= 0 {
		down = math.Nextafter(down, above)
	}
	if order(down) == 0 {
		return down, down
	}
	return down, math.Nextafter(down, above)
}

func far(c complex128) float64 { _, up := roots(real(c), imag(c)); return up }

func near(c complex128) float64 { down, _ := roots(real(c), imag(c)); return down }

// rounded is one operation, rounded by itself.
func rounded(own float64, what func(x, y *big.Rat) *big.Rat, a, b float64) float64 {
	if !isFinite(a) || !isFinite(b) || own == 0 {
		return own
	}
	v, _ := what(worth(a), worth(b)).Float64()
	return v
}

func add(a, b float64) float64 { return rounded(a+b, plus, a, b) }

func sub(a, b float64) float64 { return rounded(a-b, minus, a, b) }

func mul(a, b float64) float64 { return rounded(a*b, times, a, b) }

// quo leaves it to Go, which has no way to make more than one operation of it.
func quo(a, b float64) float64 { return a / b }

func timesOf(a, b complex128) complex128 {
	ar, ai, br, bi := real(a), imag(a), real(b), imag(b)
	return complex(sub(mul(ar, br), mul(ai, bi)), add(mul(ar, bi), mul(ai, br)))
}

func overOf(a, b complex128) complex128 {
	ar, ai, br, bi := real(a), imag(a), real(b), imag(b)
	d := add(mul(br, br), mul(bi, bi))
	return complex(quo(add(mul(ar, br), mul(ai, bi)), d), quo(sub(mul(ai, br), mul(ar, bi)), d))
}

func isFiniteComplex(c complex128) bool { return isFinite(real(c)) && isFinite(imag(c)) }

// told is the disc without signs of noughts, or ErrInf.
func told(c complex128, r float64) (api.Disc, api.Errno) {
	if !isFiniteComplex(c) || !isFinite(r) {
		return api.Disc{}, api.ErrInf
	}
	return at(complex(real(c)+0, imag(c)+0), r+0), api.OK
}

// lost is what a sum of two finite floats has lost, if it is finite.
func lost(a, b float64) float64 {
	sum := add(a, b)
	if !isFinite(sum) {
		return 0
	}
	v, _ := minus(plus(worth(a), worth(b)), worth(sum)).Float64()
	return v
}

func addOf(a, b api.Disc) (api.Disc, api.Errno) {
	ar, ai, br, bi := real(a.C), imag(a.C), real(b.C), imag(b.C)
	_, up := roots(lost(ar, br), lost(ai, bi))
	return told(complex(add(ar, br), add(ai, bi)), addUp(addUp(a.R, b.R), up))
}

func subOf(a, b api.Disc) (api.Disc, api.Errno) {
	return addOf(a, at(complex(-real(b.C), -imag(b.C)), b.R))
}

func mulOf(a, b api.Disc) (api.Disc, api.Errno) {
	ar, ai, br, bi := real(a.C), imag(a.C), real(b.C), imag(b.C)
	c := timesOf(a.C, b.C)
	if !isFiniteComplex(c) {
		return api.Disc{}, api.ErrInf
	}
	x := math.Max(
		addUp(real(c), -addDown(mulDown(ar, br), -mulUp(ai, bi))),
		addUp(addUp(mulUp(ar, br), -mulDown(ai, bi)), -real(c)))
	y := math.Max(
		addUp(imag(c), -addDown(mulDown(ar, bi), mulDown(ai, br))),
		addUp(addUp(mulUp(ar, bi), mulUp(ai, br)), -imag(c)))
	if !isFinite(x) || !isFinite(y) {
		return api.Disc{}, api.ErrInf
	}
	r := addUp(mulUp(far(a.C), b.R), mulUp(far(b.C), a.R))
	_, up := roots(x, y)
	return told(c, addUp(addUp(r, mulUp(a.R, b.R)), up))
}

func quoOf(a, b api.Disc) (api.Disc, api.Errno) {
	if !(near(b.C) > b.R) {
		return api.Disc{}, api.ErrZero
	}
	c := overOf(a.C, b.C)
	if !isFiniteComplex(c) {
		return api.Disc{}, api.ErrInf
	}
	product, e := mulOf(at(c, 0), at(b.C, 0))
	if e != api.OK {
		return api.Disc{}, e
	}
	s, e := subOf(at(a.C, 0), product)
	if e != api.OK {
		return api.Disc{}, e
	}
	r := addUp(addUp(addUp(far(s.C), s.R), a.R), mulUp(far(c), b.R))
	return told(c, quoUp(r, addDown(near(b.C), -b.R)))
}

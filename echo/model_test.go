package echo_test

import (
	"math/big"
	"slices"

	"diapason/api"
	"diapason/disc"
)

// The chapter's words, reckoned with the library's numbers.

// signOf is the sign of an end.
func signOf(end int) int64 {
	if end == api.Open {
		return -1
	}
	return 1
}

// reflections are those between the bore's cells.
func reflections(b api.Bore) []*big.Rat {
	var areas, k []*big.Rat
	for _, p := range b.Pieces {
		for range p.Long {
			areas = append(areas, value(p.Area))
		}
	}
	for i := range len(areas) - 1 {
		s, t := areas[i], areas[i+1]
		k = append(k, over(minus(s, t), plus(s, t)))
	}
	return k
}

// point is a complex number of whole numbers.
type point struct{ re, im *big.Int }

func (z point) add(w point) point {
	return point{new(big.Int).Add(z.re, w.re), new(big.Int).Add(z.im, w.im)}
}

func (z point) mul(w point) point {
	re, im := new(big.Int).Mul(z.re, w.re), new(big.Int).Mul(z.re, w.im)
	return point{re.Sub(re, new(big.Int).Mul(z.im, w.im)), im.Add(im, new(big.Int).Mul(z.im, w.re))}
}

func (z point) scaled(n *big.Int) point { return z.mul(point{n, new(big.Int)}) }

func (z point) mirrored() point { return point{z.re, new(big.Int).Neg(z.im)} }

// exactEcho is under over over of the bore's chain at the point that t stands for; both times one whole number, so that they are whole too: the point is z over its mirror image.
func exactEcho(b api.Bore, t *big.Rat) api.Gauss {
	z := point{t.Denom(), t.Num()}
	under, above := z.scaled(big.NewInt(signOf(b.Far))), z.mirrored()
	for _, k := range slices.Backward(reflections(b)) {
		u := above.scaled(k.Num()).add(under.scaled(k.Denom()))
		o := above.scaled(k.Denom()).add(under.scaled(k.Num()))
		under, above = u.mul(z), o.mul(z.mirrored())
	}
	norm := above.mul(above.mirrored()).re
	echo := under.mul(above.mirrored())
	return api.Gauss{Re: frac(new(big.Rat).SetFrac(echo.re, norm)), Im: frac(new(big.Rat).SetFrac(echo.im, norm))}
}

// timesOf is the product by floats: each product is rounded by itself.
func timesOf(a, b complex128) complex128 {
	rr, ii := float64(real(a)*real(b)), float64(imag(a)*imag(b))
	ri, ir := float64(real(a)*imag(b)), float64(imag(a)*real(b))
	return complex(rr-ii, ri+ir)
}

// overOf is the quotient by floats likewise.
func overOf(a, b complex128) complex128 {
	d := float64(real(b)*real(b)) + float64(imag(b)*imag(b))
	re := float64(real(a)*real(b)) + float64(imag(a)*imag(b))
	im := float64(imag(a)*real(b)) - float64(real(a)*imag(b))
	return complex(re/d, im/d)
}

// floatEcho is the echo by floats at x.
func floatEcho(b api.Bore, x complex128) complex128 {
	r := timesOf(x, complex(float64(signOf(b.Far)), 0))
	for _, exact := range slices.Backward(reflections(b)) {
		k, _ := exact.Float64()
		t := timesOf(complex(k, 0), r)
		r = timesOf(x, overOf(complex(k+real(r), 0+imag(r)), complex(1+real(t), 0+imag(t))))
	}
	// A nought with a sign and one without are one without.
	return complex(real(r)+0, imag(r)+0)
}

// discEcho is the echo by discs of x, or the first error of a step.
func discEcho(b api.Bore, x api.Disc) (api.Disc, api.Errno) {
	failed := api.OK
	of := func(r *big.Rat) api.Disc {
		d, e := disc.Of(api.Gauss{Re: frac(r), Im: frac(whole(0))})
		if failed == api.OK {
			failed = e
		}
		return d
	}
	step := func(call func(a, b api.Disc) (api.Disc, api.Errno), a, b api.Disc) api.Disc {
		d, e := call(a, b)
		if failed == api.OK {
			failed = e
		}
		return d
	}
	r := step(disc.Mul, x, of(whole(signOf(b.Far))))
	for _, exact := range slices.Backward(reflections(b)) {
		k := of(exact)
		above := step(disc.Add, k, r)
		below := step(disc.Add, of(whole(1)), step(disc.Mul, k, r))
		r = step(disc.Mul, x, step(disc.Quo, above, below))
	}
	if failed != api.OK {
		return api.Disc{}, failed
	}
	return r, api.OK
}

// digits is how many binary digits the numbers below have: each of 31 reflections takes 33 of them at most.
const digits = 1600

func float() *big.Float { return new(big.Float).SetPrec(digits) }

// fine is a complex number with so many digits.
type fine struct{ re, im *big.Float }

func (z fine) add(w fine) fine { return fine{float().Add(z.re, w.re), float().Add(z.im, w.im)} }

func (z fine) mul(w fine) fine {
	re := float().Sub(float().Mul(z.re, w.re), float().Mul(z.im, w.im))
	return fine{re, float().Add(float().Mul(z.re, w.im), float().Mul(z.im, w.re))}
}

func (z fine) norm() *big.Float { return float().Add(float().Mul(z.re, z.re), float().Mul(z.im, z.im)) }

func (z fine) quo(w fine) fine {
	product, norm := z.mul(fine{w.re, float().Neg(w.im)}), w.norm()
	return fine{float().Quo(product.re, norm), float().Quo(product.im, norm)}
}

// realFine is a number without an imaginary part.
func realFine(r *big.Rat) fine { return fine{float().SetRat(r), float()} }

// fineParts are the exact points at 1/2, 1/4, .. of a turn, to so many digits.
func fineParts() []fine {
	one, two := float().SetInt64(1), float().SetInt64(2)
	c, s := float(), one
	list := []fine{{float().SetInt64(-1), float()}, {c, s}}
	for len(list) < api.MaxTurn {
		c = float().Sqrt(float().Quo(float().Add(one, c), two))
		s = float().Quo(s, float().Mul(two, c))
		list = append(list, fine{c, s})
	}
	return list
}

// finePoint is the exact point at k parts of a turn of 2^n.
func finePoint(parts []fine, k, n int) fine {
	z := realFine(whole(1))
	for i := range n {
		if uint64(k)>>(n-1-i)&1 == 1 {
			z = z.mul(parts[i])
		}
	}
	return z
}

// fineEcho is the exact echo at x.
func fineEcho(b api.Bore, x fine) fine {
	r := x.mul(realFine(whole(signOf(b.Far))))
	for _, exact := range slices.Backward(reflections(b)) {
		k := realFine(exact)
		r = x.mul(k.add(r).quo(realFine(whole(1)).add(k.mul(r))))
	}
	return r
}

// hasFine tells whether the disc has the number, but for the last of its digits.
func hasFine(d api.Disc, z fine) bool {
	middle := fine{float().SetFloat64(-real(d.C)), float().SetFloat64(-imag(d.C))}
	far := float().Sqrt(z.add(middle).norm())
	slack := float().SetMantExp(float().SetInt64(1), -400)
	return far.Cmp(float().Add(float().SetFloat64(d.R), slack)) <= 0
}

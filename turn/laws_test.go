package turn_test

import (
	"math/big"
	"math/rand"
	"testing"

	"diapason/api"
	"diapason/disc"
	"diapason/gauss"
	"diapason/turn"
)

// anyTangents are half tangents whose points, and the products of two of these, are within the bound.
func anyTangents(r *rand.Rand, count int) []*big.Rat {
	list := []*big.Rat{rat("0"), rat("1"), rat("-1"), rat("1/2"), rat("2"), rat("-1/2")}
	for i := range count {
		list = append(list, anyRat(r, []int{1, 2, 9, 60, 120}[i%5]))
	}
	return list
}

// P7.5: the point is on the circle, and Half leads back.
func TestUnitIsOnTheCircle(t *testing.T) {
	for _, x := range anyTangents(rand.New(rand.NewSource(5)), 200) {
		z, e := turn.Unit(frac(x))
		norm, f := gauss.Norm(z)
		if e != api.OK || f != api.OK || norm != frac(rat("1")) {
			t.Errorf("Unit(%s) = %s, %d: the norm %s", name(x), text(z), e, shown(norm))
		}
		h, ok, e := turn.Half(z)
		isTangent(t, "Half of Unit", h, ok, e, x)
		conj, _ := gauss.Conj(z)
		mirrored, e := turn.Unit(frac(negated(x)))
		if mirrored != conj || e != api.OK {
			t.Errorf("Unit of %s, turned = %s, %d", name(x), text(mirrored), e)
		}
	}
}

// P7.5: Sum is the product of both points.
func TestSumIsTheProduct(t *testing.T) {
	list := anyTangents(rand.New(rand.NewSource(6)), 30)
	for _, x := range list {
		for _, y := range list {
			h, ok, e := turn.Sum(frac(x), frac(y))
			first, _ := turn.Unit(frac(x))
			second, _ := turn.Unit(frac(y))
			product, f := gauss.Mul(first, second)
			if e != api.OK || f != api.OK || ok == (product == gauss.Of(-1, 0)) {
				t.Fatalf("Sum(%s, %s): %v, %d; the product is %s", name(x), name(y), ok, e, text(product))
			}
			if !ok {
				continue
			}
			if z, e := turn.Unit(h); z != product || e != api.OK {
				t.Errorf("Unit of Sum(%s, %s) = %s, %d; not %s", name(x), name(y), text(z), e, text(product))
			}
		}
	}
}

// wide is a complex number of the library's floats, of far more bits than those of the points.
type wide struct{ re, im *big.Float }

func newFloat() *big.Float { return new(big.Float).SetPrec(300) }

func (z wide) mul(w wide) wide {
	rr, ii := newFloat().Mul(z.re, w.re), newFloat().Mul(z.im, w.im)
	ri, ir := newFloat().Mul(z.re, w.im), newFloat().Mul(z.im, w.re)
	return wide{newFloat().Sub(rr, ii), newFloat().Add(ri, ir)}
}

// exactParts has at i the point at one part of a turn of 2^i, but for errors far below those of floats: each is the root of the one ahead of it.
func exactParts() [17]wide {
	whole := func(n int64) *big.Float { return newFloat().SetInt64(n) }
	list := [17]wide{{whole(1), whole(0)}, {whole(-1), whole(0)}, {whole(0), whole(1)}}
	for i := 3; i <= 16; i++ {
		half := newFloat().Quo(newFloat().Add(whole(1), list[i-1].re), whole(2))
		re := newFloat().Sqrt(half)
		list[i] = wide{re, newFloat().Quo(list[i-1].im, newFloat().Mul(whole(2), re))}
	}
	return list
}

// exactPoint is the point at k parts of a turn of 2^16.
func exactPoint(parts [17]wide, k int) wide {
	z := parts[0]
	for i := 1; i <= 16; i++ {
		if k>>(16-i)&1 == 1 {
			z = z.mul(parts[i])
		}
	}
	return z
}

// far is the square of how far two are from each other.
func (z wide) far(w complex128) *big.Float {
	re := newFloat().Sub(z.re, newFloat().SetFloat64(real(w)))
	im := newFloat().Sub(z.im, newFloat().SetFloat64(imag(w)))
	return newFloat().Add(newFloat().Mul(re, re), newFloat().Mul(im, im))
}

// number is what both parts are worth.
func (z wide) number() api.Gauss {
	re, _ := z.re.Rat(nil)
	im, _ := z.im.Rat(nil)
	return point{re, im}.number()
}

// P7.6: each disc has the exact point; of a quarter it is that.
func TestDiscHasTheExactPoint(t *testing.T) {
	parts := exactParts()
	for k := range most {
		d, e := turn.Disc(k, 16)
		exact := exactPoint(parts, k)
		// What the reckoning here is off by is far less than a thousandth of the radius.
		reach := newFloat().SetFloat64(d.R * 0.999)
		if far := exact.far(d.C); e != api.OK || d.R == 0 && far.Sign() != 0 || far.Cmp(reach.Mul(reach, reach)) > 0 {
			t.Fatalf("Disc(%d, 16) = %x, %d: the point is %v, %v", k, d, e, exact.re, exact.im)
		}
		if k%97 == 0 || k%4096 == 0 {
			if has, e := disc.Has(d, exact.number()); !has || e != api.OK || disc.Check(d) != api.OK {
				t.Errorf("Disc(%d, 16) = %x has not its point, %d", k, d, e)
			}
		}
	}
}

// P7.6: half as fine, twice as many; and mirror images.
func TestPartsOfOtherTurns(t *testing.T) {
	for n := range api.MaxTurn + 1 {
		for k := -1 << n; k < 1<<n; k += 1 + (1<<n)/5000 {
			z, e := turn.Parts(k, n)
			mirrored, f := turn.Parts(-k, n)
			if e != api.OK || f != api.OK || !sameBits(complex(real(z), 0-imag(z)), mirrored) {
				t.Errorf("Parts(%d, %d) = %x, %x of the one below 0", k, n, z, mirrored)
			}
			if n == api.MaxTurn {
				continue
			}
			if w, e := turn.Parts(2*k, n+1); !sameBits(w, z) || e != api.OK {
				t.Errorf("Parts(%d, %d) = %x, %d; not %x", 2*k, n+1, w, e, z)
			}
			if d, e := turn.Disc(2*k, n+1); !sameBits(d.C, z) || e != api.OK {
				t.Errorf("Disc(%d, %d) = %x, %d; not at %x", 2*k, n+1, d, e, z)
			}
		}
	}
}

// R6: an answer hangs on what is handed in alone.
func TestAnswersStay(t *testing.T) {
	first, _ := turn.Parts(12345, 16)
	z, _ := turn.Unit(frac(rat("-7/24")))
	turn.Parts(1, 99)
	turn.Unit(api.Frac{})
	turn.Disc(-3, 4)
	turn.Sum(frac(rat("2")), frac(rat("1/2")))
	isAtParts(t, 12345, 16, first)
	if w, e := turn.Unit(frac(rat("-7/24"))); w != z || e != api.OK {
		t.Errorf("Unit(-7/24) = %s, %d; not %s", text(w), e, text(z))
	}
}

package disc_test

import (
	"math"
	"math/big"
	"math/rand"
	"strings"
	"testing"

	"diapason/api"
	"diapason/disc"
)

// isOf holds the disc of a number against the library's numbers.
func isOf(t *testing.T, re, im *big.Rat) {
	t.Helper()
	z := number(re, im)
	d, e := disc.Of(z)
	x, _ := re.Float64()
	y, _ := im.Float64()
	if !isFinite(x) || !isFinite(y) {
		isDisc(t, "Of", api.Disc{}, api.Disc{}, d, e, api.Disc{}, api.ErrInf)
		return
	}
	_, farX := around(new(big.Rat).Abs(minus(re, worth(x))))
	_, farY := around(new(big.Rat).Abs(minus(im, worth(y))))
	_, r := roots(farX, farY)
	if want := at(complex(x+0, y+0), r); !sameDisc(d, want) || e != api.OK {
		t.Errorf("Of(%s) = %x, %d; not %x", name(z), d, e, want)
	}
	// P4.6: it has its number.
	if has, e := disc.Has(d, z); !has || e != api.OK {
		t.Errorf("Of(%s) has it not: %x", name(z), d)
	}
}

// P4.1: numbers of all sizes, whose distances from their floats have more bytes than a fraction may have, too.
func TestOf(t *testing.T) {
	r := rand.New(rand.NewSource(5))
	anyRat := func(bits int) *big.Rat {
		top := new(big.Int).Lsh(big.NewInt(1), uint(bits))
		num, den := new(big.Int).Rand(r, top), new(big.Int).Rand(r, top)
		if den.Sign() == 0 || r.Intn(5) == 0 {
			den.SetInt64(1)
		}
		if r.Intn(2) == 0 {
			num.Neg(num)
		}
		return new(big.Rat).SetFrac(num, den)
	}
	for i := range 1500 {
		bits := []int{3, 30, 60, 400, 1000, 2100, 4096}[i%7]
		re, im := anyRat(bits), anyRat(bits)
		isOf(t, re, im)
		if bits <= 2100 {
			isOf(t, over(re, power2(r.Intn(1200))), times(im, power2(r.Intn(1100))))
		}
	}
}

// P4.1: floats, what lies halfway between two, and a little beside it; the ends of the range among them.
func TestOfHalfway(t *testing.T) {
	little, third := power2(-2000), rat("1/3")
	for _, v := range edges() {
		next := math.Nextafter(v, above)
		high := power2(1024)
		if isFinite(next) {
			high = worth(next)
		}
		middle := over(plus(worth(v), high), rat("2"))
		for _, x := range []*big.Rat{worth(v), middle, plus(middle, little), minus(middle, little), plus(worth(v), little)} {
			isOf(t, x, third)
			isOf(t, turned(third), x)
			isOf(t, x, x)
		}
	}
}

// P4.1: the edges that the chapter names, and what may not be.
func TestOfEdges(t *testing.T) {
	tie := minus(power2(1024), power2(970))
	for _, x := range []*big.Rat{tie, plus(tie, rat("1")), power2(1024), power2(4095)} {
		for _, y := range []*big.Rat{x, turned(x)} {
			for _, z := range []api.Gauss{number(y, rat("0")), number(rat("1/3"), y), number(y, y)} {
				d, e := disc.Of(z)
				isDisc(t, "Of", api.Disc{}, api.Disc{}, d, e, api.Disc{}, api.ErrInf)
			}
		}
	}
	// The farthest a number may be from its floats.
	low := minus(tie, rat("1"))
	d, e := disc.Of(number(low, turned(low)))
	isDisc(t, "Of", api.Disc{}, api.Disc{}, d, e, at(complex(greatest, -greatest), 0x1.6a09e667f3bcdp+970), api.OK)
	// The least it may be, of the most bytes: 1 + 1 / (2^4096 - 2).
	most := strings.Repeat("\xff", api.MaxBytes)
	second := most[1:] + "\xfe"
	one := frac(rat("1"))
	d, e = disc.Of(api.Gauss{Re: api.Frac{Num: most, Den: second}, Im: one})
	isDisc(t, "Of", api.Disc{}, api.Disc{}, d, e, at(1+1i, least), api.OK)
	for _, wrong := range noNumbers() {
		d, e := disc.Of(wrong)
		isDisc(t, "Of what may not be", api.Disc{}, api.Disc{}, d, e, api.Disc{}, api.ErrArg)
	}
}

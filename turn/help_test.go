package turn_test

import (
	"math"
	"math/big"
	"math/rand"
	"strings"
	"testing"

	"diapason/api"
	"diapason/gauss"
)

// point is a complex number as the library has its parts.
type point struct{ re, im *big.Rat }

// at is the number with the parts of two texts.
func at(re, im string) point { return point{rat(re), rat(im)} }

func (z point) add(w point) point { return point{plus(z.re, w.re), plus(z.im, w.im)} }

func (z point) mul(w point) point {
	return point{minus(times(z.re, w.re), times(z.im, w.im)), plus(times(z.re, w.im), times(z.im, w.re))}
}

// number is the complex number as the program has it.
func (z point) number() api.Gauss { return api.Gauss{Re: frac(z.re), Im: frac(z.im)} }

// isLong tells whether a part is beyond what a fraction may be.
func (z point) isLong() bool { return isLong(z.re) || isLong(z.im) }

// same tells whether both are one number.
func (z point) same(w point) bool { return z.re.Cmp(w.re) == 0 && z.im.Cmp(w.im) == 0 }

// unit is the point of a half tangent, as DOC.md has it.
func unit(t *big.Rat) point {
	one, square := rat("1"), times(t, t)
	return point{over(minus(one, square), plus(one, square)), over(plus(t, t), plus(one, square))}
}

func plus(x, y *big.Rat) *big.Rat { return new(big.Rat).Add(x, y) }

func minus(x, y *big.Rat) *big.Rat { return new(big.Rat).Sub(x, y) }

func times(x, y *big.Rat) *big.Rat { return new(big.Rat).Mul(x, y) }

func over(x, y *big.Rat) *big.Rat { return new(big.Rat).Quo(x, y) }

func negated(x *big.Rat) *big.Rat { return new(big.Rat).Neg(x) }

// rat is the number of a text.
func rat(s string) *big.Rat {
	r, ok := new(big.Rat).SetString(s)
	if !ok {
		panic("no number: " + s)
	}
	return r
}

// power2 is 2^n + more; n may be below 0.
func power2(n int, more int64) *big.Rat {
	p := new(big.Rat).SetInt(new(big.Int).Lsh(big.NewInt(1), uint(max(n, -n))))
	if n < 0 {
		p.Inv(p)
	}
	return p.Add(p, big.NewRat(more, 1))
}

// greatest is the greatest number that a fraction may be.
func greatest() *big.Rat { return power2(8*api.MaxBytes, -1) }

// frac is the fraction of a number of the library's, whatever its size.
func frac(r *big.Rat) api.Frac {
	num := new(big.Int).Abs(r.Num())
	return api.Frac{Neg: r.Sign() < 0, Num: string(num.Bytes()), Den: string(r.Denom().Bytes())}
}

// value is the number of a fraction that may be.
func value(x api.Frac) *big.Rat {
	num := new(big.Int).SetBytes([]byte(x.Num))
	if x.Neg {
		num.Neg(num)
	}
	return new(big.Rat).SetFrac(num, new(big.Int).SetBytes([]byte(x.Den)))
}

// shown tells a fraction, whether it may be or not.
func shown(x api.Frac) string {
	if strings.Trim(x.Den, "\x00") == "" {
		return "none"
	}
	return name(value(x))
}

// isLong tells whether a number has more bytes than a fraction's may have.
func isLong(r *big.Rat) bool {
	return len(r.Num().Bytes()) > api.MaxBytes || len(r.Denom().Bytes()) > api.MaxBytes
}

// short is the beginning of a text.
func short(s string) string {
	if len(s) > 100 {
		return s[:100] + ".."
	}
	return s
}

// name tells a number.
func name(r *big.Rat) string { return short(r.RatString()) }

// text tells a complex number.
func text(z api.Gauss) string {
	s, _ := gauss.Text(z)
	return short(s)
}

// sameBits tells whether two have the same bits in both parts.
func sameBits(v, w complex128) bool {
	return math.Float64bits(real(v)) == math.Float64bits(real(w)) && math.Float64bits(imag(v)) == math.Float64bits(imag(w))
}

// noFractions are fractions that may not be.
func noFractions() []api.Frac {
	long := "\x01" + strings.Repeat("\x00", api.MaxBytes)
	return []api.Frac{
		{}, {Den: "\x02"}, {Neg: true, Den: "\x01"}, {Num: "\x01"}, {Num: "\x02", Den: "\x04"}, {Num: "\x00\x02", Den: "\x03"},
		{Num: "\x02", Den: "\x00\x03"}, {Num: "\x01", Den: "\x00"}, {Num: long, Den: "\x01"}, {Neg: true, Num: "\x01", Den: long},
	}
}

// noNumbers are complex numbers that may not be.
func noNumbers() []api.Gauss {
	nought, one := frac(rat("0")), frac(rat("1"))
	var list []api.Gauss
	for _, x := range noFractions() {
		list = append(list, api.Gauss{Re: x, Im: nought}, api.Gauss{Re: one, Im: x}, api.Gauss{Re: nought, Im: x}, api.Gauss{Re: x, Im: x})
	}
	return list
}

// tangents are half tangents, those at which points have numbers of just MaxBytes bytes, and beyond, among them.
func tangents() []*big.Rat {
	list := []*big.Rat{rat("0"), rat("1"), rat("1/2"), rat("1/3"), rat("2/3"), rat("7/24"), rat("355/113"), rat("99/100"), rat("1/1000000007"), greatest()}
	for _, n := range []int{63, 64, 2000, 2046, 2047, 2048, 2049, 4095} {
		for _, more := range []int64{-1, 0, 1} {
			list = append(list, power2(n, more), over(power2(n, more), power2(n, more+1)))
		}
	}
	// Of an odd one the point's numbers have a factor 2 in common.
	odd := new(big.Int).Sqrt(power2(4097, -2).Num())
	odd.SetBit(odd, 0, 1)
	for _, more := range []int64{-4, -2, 0, 2} {
		list = append(list, plus(new(big.Rat).SetInt(odd), big.NewRat(more, 1)))
	}
	var all []*big.Rat
	for _, t := range list {
		all = append(all, t, negated(t))
		if t.Sign() != 0 {
			all = append(all, over(rat("1"), t), over(rat("-1"), t))
		}
	}
	return all
}

// anyRat is a number with at most so many bytes above and below.
func anyRat(r *rand.Rand, bytes int) *big.Rat {
	above := new(big.Int).Rand(r, new(big.Int).Lsh(big.NewInt(1), uint(8*bytes)))
	below := new(big.Int).Rand(r, new(big.Int).Lsh(big.NewInt(1), uint(8*bytes)))
	if r.Intn(4) == 0 || below.Sign() == 0 {
		below.SetInt64(1)
	}
	if r.Intn(2) == 0 {
		above.Neg(above)
	}
	return new(big.Rat).SetFrac(above, below)
}

// isPoint holds an answer against a number: ErrLong, if that is beyond what an answer may be.
func isPoint(t *testing.T, what string, z api.Gauss, e api.Errno, want point) {
	t.Helper()
	if want.isLong() {
		if z != (api.Gauss{}) || e != api.ErrLong {
			t.Errorf("%s = %s, %d; not ErrLong", what, text(z), e)
		}
		return
	}
	if z != want.number() || e != api.OK {
		t.Errorf("%s = %s, %d; not %s", what, text(z), e, text(want.number()))
	}
}

// isTangent holds an answer against a half tangent: ErrLong, if that is beyond what an answer may be.
func isTangent(t *testing.T, what string, x api.Frac, ok bool, e api.Errno, want *big.Rat) {
	t.Helper()
	if isLong(want) {
		isNoTangent(t, what, x, ok, e, api.ErrLong)
		return
	}
	if x != frac(want) || !ok || e != api.OK {
		t.Errorf("%s = %s, %v, %d; not %s", what, shown(x), ok, e, name(want))
	}
}

// isNoTangent asks for a zero fraction and false, beside OK or an error.
func isNoTangent(t *testing.T, what string, x api.Frac, ok bool, e, want api.Errno) {
	t.Helper()
	if x != (api.Frac{}) || ok || e != want {
		t.Errorf("%s = %s, %v, %d; not false and %d", what, shown(x), ok, e, want)
	}
}

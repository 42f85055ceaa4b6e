package disc_test

import (
	"math"
	"math/big"
	"math/rand"
	"strings"
	"testing"

	"diapason/api"
	"diapason/gauss"
)

const (
	greatest = math.MaxFloat64
	least    = math.SmallestNonzeroFloat64
	unit     = 0x1p-52 // what 1 and the next float above it are apart
)

var (
	above       = math.Inf(1)
	below       = math.Inf(-1)
	none        = math.NaN()
	minusNought = math.Copysign(0, -1)
)

// at is the disc with this middle and this radius.
func at(c complex128, r float64) api.Disc { return api.Disc{C: c, R: r} }

// frac is the fraction of a number of the library's, whatever its size.
func frac(r *big.Rat) api.Frac {
	num := new(big.Int).Abs(r.Num())
	return api.Frac{Neg: r.Sign() < 0, Num: string(num.Bytes()), Den: string(r.Denom().Bytes())}
}

// number is the number with these parts.
func number(re, im *big.Rat) api.Gauss { return api.Gauss{Re: frac(re), Im: frac(im)} }

// point is the number of a text.
func point(s string) api.Gauss {
	z, e := gauss.Parse(s)
	if e != api.OK {
		panic("no number: " + s)
	}
	return z
}

// name tells a number, of a long one the beginning.
func name(z api.Gauss) string {
	s, _ := gauss.Text(z)
	if len(s) > 100 {
		s = s[:100] + ".."
	}
	return s
}

// rat is the number of a text.
func rat(s string) *big.Rat {
	r, ok := new(big.Rat).SetString(s)
	if !ok {
		panic("no number: " + s)
	}
	return r
}

// power2 is 2^n; n may be below 0.
func power2(n int) *big.Rat {
	p := new(big.Rat).SetInt(new(big.Int).Lsh(big.NewInt(1), uint(max(n, -n))))
	if n < 0 {
		p.Inv(p)
	}
	return p
}

// worth is what a finite float is worth.
func worth(v float64) *big.Rat { return new(big.Rat).SetFloat64(v) }

func plus(x, y *big.Rat) *big.Rat { return new(big.Rat).Add(x, y) }

func minus(x, y *big.Rat) *big.Rat { return new(big.Rat).Sub(x, y) }

func times(x, y *big.Rat) *big.Rat { return new(big.Rat).Mul(x, y) }

func over(x, y *big.Rat) *big.Rat { return new(big.Rat).Quo(x, y) }

func turned(x *big.Rat) *big.Rat { return new(big.Rat).Neg(x) }

func isFinite(v float64) bool { return v-v == 0 }

// same tells whether two floats have the same bits, or both are no numbers.
func same(a, b float64) bool {
	return a != a && b != b || math.Float64bits(a) == math.Float64bits(b)
}

// sameDisc tells whether two discs are of the same floats.
func sameDisc(a, b api.Disc) bool { return sameComplex(a.C, b.C) && same(a.R, b.R) }

// sameComplex tells whether two are of the same floats.
func sameComplex(a, b complex128) bool { return same(real(a), real(b)) && same(imag(a), imag(b)) }

// isDisc holds an answer against a disc, or an error, beside which there is the zero value.
func isDisc(t *testing.T, what string, a, b, d api.Disc, e api.Errno, want api.Disc, wantE api.Errno) {
	t.Helper()
	if !sameDisc(d, want) || e != wantE {
		t.Errorf("%s of %x and %x = %x, %d; not %x, %d", what, a, b, d, e, want, wantE)
	}
}

// noDiscs are discs that may not be.
func noDiscs() []api.Disc {
	list := []api.Disc{at(0, -least), at(1, -1), at(complex(1, 2), -greatest)}
	for _, v := range []float64{above, below, none} {
		list = append(list, at(complex(v, 0), 0), at(complex(0, v), 1), at(1, v), at(complex(v, v), v))
	}
	return list
}

// noNumbers are numbers that may not be.
func noNumbers() []api.Gauss {
	long := "\x01" + strings.Repeat("\x00", api.MaxBytes)
	good := frac(rat("-3/2"))
	list := []api.Gauss{{}}
	for _, wrong := range []api.Frac{
		{}, {Den: "\x02"}, {Neg: true, Den: "\x01"}, {Num: "\x01"}, {Num: "\x02", Den: "\x04"},
		{Num: "\x00\x02", Den: "\x03"}, {Num: "\x01", Den: "\x00"}, {Num: long, Den: "\x01"}, {Num: "\x01", Den: long},
	} {
		list = append(list, api.Gauss{Re: wrong, Im: good}, api.Gauss{Re: good, Im: wrong})
	}
	return list
}

// edges are finite floats at the edges of what the operations do, each with both signs.
func edges() []float64 {
	list := []float64{
		0, least, 3 * least, 0x1.8p-1050, 0x1p-1023, 0x0.fffffffffffffp-1022, 0x1p-1022, 0x1.0000000000001p-1022, 0x1p-1021,
		0x1p-538, 0x1.0000000000001p-537, 0x1.8p-511, unit / 4, unit / 2, unit, 0.1, 1.0 / 3, 1 - unit/2, 1, 1 + unit, 1.5, 2 - unit,
		3, 4, 5, 0x1.0000001p+26, 0x1p53 - 1, 0x1.0000000000001p+511, 0x1.fffffffffffffp+511, 0x1p512, 0x1.6a09e667f3bccp+1023,
		0x1p969, 0x1p970, 0x1.8p971, 0x1p1022, 0x1.fffffffffffffp+1022, 0x1p1023, 0x1.ffffffffffffep+1023, greatest,
	}
	for _, v := range list {
		list = append(list, -v)
	}
	return list
}

// anyEdge is one of the edges, or next to one.
func anyEdge(r *rand.Rand) float64 {
	list := edges()
	v := list[r.Intn(len(list))]
	if r.Intn(8) == 0 && math.Abs(v) < greatest {
		v = math.Nextafter(v, above)
	}
	return v
}

// anyFloat makes finite floats of middling sizes, some of them with few bits.
func anyFloat(r *rand.Rand) float64 {
	v := math.Ldexp(r.Float64()-0.5, r.Intn(40)-20)
	switch r.Intn(4) {
	case 0:
		return float64(r.Intn(17)-8) / 4
	case 1:
		return math.Float64frombits(math.Float64bits(v) &^ (1<<r.Intn(52) - 1))
	}
	return v
}

// anyDisc makes discs of such floats, some of them without a radius, and some that go beyond nought.
func anyDisc(r *rand.Rand, float func(*rand.Rand) float64) api.Disc {
	d := at(complex(float(r), float(r)), math.Abs(float(r)))
	switch r.Intn(4) {
	case 0:
		d.R = 0
	case 1:
		d.R = math.Ldexp(d.R, -r.Intn(60))
	}
	return d
}

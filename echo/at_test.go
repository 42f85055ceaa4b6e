package echo_test

import (
	"math/big"
	"math/rand"
	"strings"
	"testing"

	"diapason/api"
	"diapason/echo"
	"diapason/gauss"
	"diapason/poly"
	"diapason/schur"
	"diapason/turn"
)

// isAt holds At against the model.
func isAt(t *testing.T, b api.Bore, tangent *big.Rat) {
	t.Helper()
	z, e := echo.At(b, frac(tangent))
	isGauss(t, "At("+name(b)+", "+cut(tangent.RatString())+")", z, e, exactEcho(b, tangent))
}

// P14.1: bores of all lengths, half tangents of up to 32 bytes.
func TestAt(t *testing.T) {
	r := rand.New(rand.NewSource(1))
	for _, b := range bores(2, 40) {
		for _, tangent := range tangents() {
			isAt(t, b, tangent)
		}
		for range 8 {
			isAt(t, b, anyTangent(r, 1))
			isAt(t, b, anyTangent(r, 4))
			isAt(t, b, anyTangent(r, 32))
		}
	}
}

// P14.1, R7: of long bores at these half tangents some answers are just short enough, some just too long.
func TestAtAboutTheBound(t *testing.T) {
	r := rand.New(rand.NewSource(3))
	short, long := 0, 0
	for range 300 {
		b := api.Bore{Near: api.Open, Far: 1 + r.Intn(2)}
		for range api.MaxDegree {
			b.Pieces = append(b.Pieces, api.Piece{Area: frac(big.NewRat(1+r.Int63n(api.MaxArea), 1+r.Int63n(api.MaxArea))), Long: 1})
		}
		tangent := big.NewRat(1<<37+r.Int63n(1<<40), 1<<37+r.Int63n(1<<40))
		isAt(t, b, tangent)
		switch size := value(exactEcho(b, tangent).Re).Denom().BitLen(); {
		case size > 4000 && size <= 4096:
			short++
		case size > 4096 && size < 4200:
			long++
		}
	}
	if short < 10 || long < 10 {
		t.Errorf("%d answers are just short enough, %d just too long", short, long)
	}
}

// P14.1, R7: an answer of just 512 bytes, and the next one, which has a byte more. In a bore of one area it is the point to the power of the length.
func TestAtAtTheBound(t *testing.T) {
	for _, long := range []uint{8, 16, 32} {
		bound := power2(4096/long, 0).Num()
		den := power2(2048/long-1, 1).Num()
		// Of all even numerators that do not share a factor with it, the greatest one with which the squares are below the bound, and the least one with which they are not.
		left := new(big.Int).Sub(bound, new(big.Int).Mul(den, den))
		num := new(big.Int).Sqrt(left)
		num.SetBit(num, 0, 0)
		short := apartFrom(den, num, -2)
		above := apartFrom(den, new(big.Int).Add(num, big.NewInt(2)), 2)
		for _, far := range []int{api.Stopped, api.Open} {
			b := api.Bore{Pieces: []api.Piece{{Area: frac(rat("2/3")), Long: int(long)}}, Near: api.Open, Far: far}
			for tangent, isTooLong := range map[*big.Rat]bool{short: false, above: true} {
				if want := exactEcho(b, tangent); isLong(value(want.Re)) != isTooLong {
					t.Fatalf("%s at %s is not what it says", name(b), cut(tangent.RatString()))
				}
				isAt(t, b, tangent)
				isAt(t, b, negated(tangent))
				isAt(t, b, over(whole(1), tangent))
			}
		}
	}
}

// apartFrom is num over den, or what is nearest to it in these steps and in lowest terms.
func apartFrom(den, num *big.Int, step int64) *big.Rat {
	for new(big.Int).GCD(nil, nil, den, num).Cmp(big.NewInt(1)) != 0 {
		num = new(big.Int).Add(num, big.NewInt(step))
	}
	return new(big.Rat).SetFrac(num, den)
}

// P14.1: echoes of -1, which has no half tangent: at the end, and on the way.
func TestAtOfHalfATurn(t *testing.T) {
	for _, c := range []struct {
		b       api.Bore
		tangent string
	}{
		{pipe(api.Stopped, "49x1 1x1"), "7"}, {pipe(api.Stopped, "1x1 49x1"), "1/7"}, {pipe(api.Stopped, "65535x1 1/65535x1"), "65535"}, {pipe(api.Stopped, "1/65535x1 65535x1"), "1/65535"},
		{pipe(api.Open, "1x2 3x4"), "0"}, {pipe(api.Stopped, "5x6"), "1"}, {pipe(api.Open, "5x8"), "1"}, {pipe(api.Stopped, "9/4x1 1x1"), "3/2"},
	} {
		for _, tangent := range []*big.Rat{rat(c.tangent), negated(rat(c.tangent))} {
			z, e := echo.At(c.b, frac(tangent))
			isGauss(t, "At of "+name(c.b), z, e, number("-1"))
			for _, ahead := range []string{"1", "2/3", "65535", "1/65535"} {
				b := c.b
				b.Pieces = append(pipe(api.Stopped, ahead+"x1").Pieces, b.Pieces...)
				isAt(t, b, tangent)
				b.Pieces = append(pipe(api.Stopped, "7/5x2").Pieces, b.Pieces...)
				isAt(t, b, tangent)
			}
		}
	}
}

// P14.1: it is under over over of the chain, at the point, by the layers that tell these.
func TestAtIsUnderOverOver(t *testing.T) {
	r := rand.New(rand.NewSource(4))
	for range 300 {
		b := mildBore(r)
		tangent := anyTangent(r, 1)
		c := api.Chain{Far: int(signOf(b.Far))}
		for _, k := range reflections(b) {
			c.K = append(c.K, frac(k))
		}
		x, _ := turn.Unit(frac(tangent))
		under, above, e := schur.Forward(c)
		u, uE := poly.AtGauss(under, x)
		o, oE := poly.AtGauss(above, x)
		want, wantE := gauss.Quo(u, o)
		if e != api.OK || uE != api.OK || oE != api.OK || wantE != api.OK {
			t.Fatalf("%s at %s: %d, %d, %d, %d", name(b), tangent, e, uE, oE, wantE)
		}
		z, e := echo.At(b, frac(tangent))
		isGauss(t, "At of "+name(b), z, e, want)
	}
}

// P14.1: half tangents that may not be, and such as have too many bytes; what is first told of several.
func TestWrongAt(t *testing.T) {
	for _, b := range bores(5, 10) {
		for _, x := range noFractions() {
			z, e := echo.At(b, x)
			isNoGauss(t, "At of no fraction", z, e, api.ErrArg)
		}
		for _, x := range longTangents() {
			z, e := echo.At(b, frac(x))
			isNoGauss(t, "At("+cut(x.RatString())+")", z, e, api.ErrLong)
		}
		for _, x := range []string{"\x01" + strings.Repeat("\x00", 31), "\xff" + strings.Repeat("\xff", 31)} {
			z, e := echo.At(pipe(api.Stopped, "1x1"), api.Frac{Num: x, Den: "\x01"})
			isGauss(t, "At of 32 bytes", z, e, exactEcho(pipe(api.Stopped, "1x1"), value(api.Frac{Num: x, Den: "\x01"})))
		}
	}
	for _, b := range noBores() {
		for _, x := range append(noFractions(), frac(whole(0)), frac(whole(1)), frac(power2(256, 0)), frac(power2(4096, -1))) {
			z, e := echo.At(b, x)
			isNoGauss(t, "At of the bore "+name(b), z, e, api.ErrArg)
		}
	}
}

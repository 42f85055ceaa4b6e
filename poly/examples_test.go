package poly_test

import (
	"testing"

	"diapason/api"
	"diapason/poly"
	"diapason/ratio"
)

// The chapter's examples, row by row.

func TestExampleOf(t *testing.T) {
	isPoly(t, "Of(1, 2, 0, 0)", poly.Of(1, 2, 0, 0), api.OK, of("1 2"))
	isPoly(t, "Of(0)", poly.Of(0), api.OK, nil)
	isPoly(t, "Of()", poly.Of(), api.OK, nil)
}

func TestExampleReckoning(t *testing.T) {
	p, e := poly.Mul(poly.Of(1, 1), poly.Of(1, -1))
	isPoly(t, "a product", p, e, of("1 0 -1"))
	p, e = poly.Add(poly.Of(1, 1), poly.Of(1, -1))
	isPoly(t, "a sum", p, e, of("2"))
	p, e = poly.Sub(poly.Of(0, 1), poly.Of(0, 1))
	isPoly(t, "a difference", p, e, nil)
}

func TestExampleDividing(t *testing.T) {
	quo, rest, e := poly.Divide(poly.Of(1, 0, 1), poly.Of(1, 1))
	isPoly(t, "a quotient", quo, e, of("-1 1"))
	isPoly(t, "a rest", rest, e, of("2"))
	quo, rest, e = poly.Divide(poly.Of(0, 1), poly.Of(0, 0, 1))
	isPoly(t, "a quotient", quo, e, nil)
	isPoly(t, "a rest", rest, e, of("0 1"))
	quo, rest, e = poly.Divide(poly.Of(0, 1), nil)
	isError(t, "a quotient", quo, e, api.ErrZero)
	isError(t, "a rest", rest, e, api.ErrZero)
}

func TestExampleFactors(t *testing.T) {
	for _, c := range []struct{ p, q, want string }{
		{"2 0 -2", "3 3", "1 1"}, {"", "0 2", "0 1"}, {"", "", ""}, {"4", "0 1", "1"},
	} {
		g, e := poly.Gcd(of(c.p).poly(), of(c.q).poly())
		isPoly(t, "Gcd of "+c.p+" and "+c.q, g, e, of(c.want))
	}
}

func TestExampleTurns(t *testing.T) {
	p, e := poly.Derive(poly.Of(1, 2, 3))
	isPoly(t, "a derivative", p, e, of("2 6"))
	p, e = poly.Turned(poly.Of(1, 2), 3)
	isPoly(t, "Turned(1 + 2x, 3)", p, e, of("0 0 2 1"))
	p, e = poly.Turned(poly.Of(0, 1), 0)
	isError(t, "Turned(x, 0)", p, e, api.ErrArg)
	p, e = poly.Turned(nil, 5)
	isPoly(t, "Turned(0, 5)", p, e, nil)
}

func TestExampleValues(t *testing.T) {
	half, _ := ratio.Of(1, 2)
	if v, e := poly.At(poly.Of(1, 0, 1), half); v != frac(rat("5/4")) || e != api.OK {
		t.Errorf("At = %v, %d", v, e)
	}
	nought, i := number(rat("0"), rat("0")), number(rat("0"), rat("1"))
	if v, e := poly.AtGauss(poly.Of(1, 0, 1), i); v != nought || e != api.OK {
		t.Errorf("AtGauss = %v, %d", v, e)
	}
	if s, e := poly.Text(of("1 -1/2").poly()); s != "1 -1/2" || e != api.OK {
		t.Errorf("Text = %q, %d", s, e)
	}
	if s, e := poly.Text(nil); s != "0" || e != api.OK {
		t.Errorf("Text of 0 = %q, %d", s, e)
	}
}

func TestExampleErrors(t *testing.T) {
	p, e := poly.Mul(power(32).poly(), poly.Of(0, 1))
	isError(t, "x^33", p, e, api.ErrLong)
	if e := poly.Check(api.Poly{frac(rat("1")), frac(rat("0"))}); e != api.ErrArg {
		t.Errorf("Check of a list that ends with nought = %d", e)
	}
}

package gauss_test

import (
	"math"
	"testing"

	"diapason/api"
	"diapason/gauss"
)

// The chapter's examples, row by row.

// isText holds an answer against its text.
func isText(t *testing.T, what string, z api.Gauss, e api.Errno, want string) {
	t.Helper()
	s, f := gauss.Text(z)
	if e != api.OK || f != api.OK || s != want {
		t.Errorf("%s = %q, %d; not %q", what, s, e, want)
	}
}

func TestExampleReckoning(t *testing.T) {
	z, e := gauss.Mul(gauss.Of(3, -4), gauss.Of(1, 2))
	isText(t, "a product", z, e, "11+2i")
	n, e := gauss.Norm(gauss.Of(3, -4))
	isText(t, "a norm", api.Gauss{Re: n, Im: gauss.Of(0, 0).Im}, e, "25")
	z, e = gauss.Quo(gauss.Of(1, 1), gauss.Of(0, 1))
	isText(t, "a quotient", z, e, "1-i")
	z, e = gauss.Quo(gauss.Of(1, 1), gauss.Of(0, 0))
	isError(t, "over nought", z, e, api.ErrZero)
}

func TestExamplePower(t *testing.T) {
	for _, c := range []struct {
		re, im int64
		n      int
		want   string
	}{{0, 1, 3, "-i"}, {1, 1, -2, "-1/2i"}, {0, 0, 0, "1"}} {
		z, e := gauss.Power(gauss.Of(c.re, c.im), c.n)
		isText(t, "a power", z, e, c.want)
	}
	z, e := gauss.Power(gauss.Of(0, 0), -1)
	isError(t, "over nought", z, e, api.ErrZero)
	z, e = gauss.Power(gauss.Of(1, 0), 25)
	isError(t, "the power 25", z, e, api.ErrLong)
}

func TestExampleTexts(t *testing.T) {
	for _, c := range []struct {
		re, im int64
		want   string
	}{{0, 0, "0"}, {0, 1, "i"}, {0, -1, "-i"}, {-2, 0, "-2"}, {1, -1, "1-i"}, {0, 2, "2i"}} {
		isText(t, "Of", gauss.Of(c.re, c.im), api.OK, c.want)
	}
	isText(t, "1/2 and -3/4", at("1/2", "-3/4").number(), api.OK, "1/2-3/4i")
	z, e := gauss.Parse("i")
	isNumber(t, "Parse(i)", z, e, at("0", "1"))
	z, e = gauss.Parse("1/2-3/4i")
	isNumber(t, "Parse(1/2-3/4i)", z, e, at("1/2", "-3/4"))
	for _, s := range []string{"1i", "0+i", "1+0i", "i+1", "1+-i", "2/4i", "+i", ""} {
		isNoText(t, s, api.ErrForm)
	}
}

func TestExampleFloats(t *testing.T) {
	if v, e := gauss.Complex(at("1/2", "-3").number()); v != complex(0.5, -3) || e != api.OK {
		t.Errorf("Complex = %v, %d", v, e)
	}
	if v, e := gauss.Complex(pair{power2(1024, 0), rat("0")}.number()); v != 0 || e != api.ErrInf {
		t.Errorf("Complex of 2^1024 = %v, %d", v, e)
	}
	z, e := gauss.FromComplex(complex(0.5, -0.25))
	isText(t, "FromComplex", z, e, "1/2-1/4i")
	z, e = gauss.FromComplex(complex(0, math.Inf(1)))
	isError(t, "FromComplex of an infinity", z, e, api.ErrInf)
}

func TestExampleCheck(t *testing.T) {
	if e := gauss.Check(api.Gauss{}); e != api.ErrArg {
		t.Errorf("Check of the zero value = %d", e)
	}
}

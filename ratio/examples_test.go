package ratio_test

import (
	"math"
	"testing"

	"diapason/api"
	"diapason/ratio"
)

// The chapter's examples, row by row.

func TestExampleOf(t *testing.T) {
	for _, c := range []struct {
		num, den int64
		want     string
	}{{6, -4, "-3/2"}, {0, -7, "0"}, {math.MinInt64, -1, "9223372036854775808"}} {
		x, e := ratio.Of(c.num, c.den)
		isNumber(t, "Of", x, e, rat(c.want))
	}
	x, e := ratio.Of(1, 0)
	isError(t, "Of(1, 0)", x, e, api.ErrZero)
}

func TestExampleCheck(t *testing.T) {
	for _, x := range []api.Frac{{}, {Den: "\x02"}, {Neg: true, Den: "\x01"}, {Num: "\x02", Den: "\x04"}} {
		if e := ratio.Check(x); e != api.ErrArg {
			t.Errorf("Check(%v) = %d", x, e)
		}
	}
}

func TestExampleReckoning(t *testing.T) {
	x, e := ratio.Add(of("1/2"), of("1/3"))
	isNumber(t, "1/2 + 1/3", x, e, rat("5/6"))
	x, e = ratio.Sub(of("1/2"), of("1/2"))
	isNumber(t, "1/2 - 1/2", x, e, rat("0"))
	x, e = ratio.Mul(of("2/3"), of("3/2"))
	isNumber(t, "2/3 times 3/2", x, e, rat("1"))
	x, e = ratio.Quo(of("1"), of("0"))
	isError(t, "1 over 0", x, e, api.ErrZero)
}

func TestExampleOrder(t *testing.T) {
	if c, e := ratio.Cmp(of("1/3"), of("1/2")); c != -1 || e != api.OK {
		t.Errorf("Cmp(1/3, 1/2) = %d, %d", c, e)
	}
	if s := ratio.Sign(of("-1/5")); s != -1 {
		t.Errorf("Sign(-1/5) = %d", s)
	}
	x, e := ratio.Floor(of("-3/2"))
	isNumber(t, "Floor(-3/2)", x, e, rat("-2"))
	x, e = ratio.Floor(of("3/2"))
	isNumber(t, "Floor(3/2)", x, e, rat("1"))
	if n, ok := ratio.Int64(of("7")); n != 7 || !ok {
		t.Errorf("Int64(7) = %d, %v", n, ok)
	}
	if n, ok := ratio.Int64(of("1/2")); n != 0 || ok {
		t.Errorf("Int64(1/2) = %d, %v", n, ok)
	}
}

func TestExampleBetween(t *testing.T) {
	for _, c := range [][3]string{{"1/3", "1/2", "2/5"}, {"0", "1", "1/2"}, {"-1/2", "1/3", "0"}, {"7/3", "9/2", "3"}, {"-9/2", "-7/3", "-3"}} {
		x, e := ratio.Between(of(c[0]), of(c[1]))
		isNumber(t, "Between("+c[0]+", "+c[1]+")", x, e, rat(c[2]))
	}
	x, e := ratio.Between(of("1"), of("1"))
	isError(t, "Between(1, 1)", x, e, api.ErrArg)
}

func TestExampleBound(t *testing.T) {
	x, e := ratio.Mul(frac(whole(power2(4095, 0))), of("2"))
	isError(t, "2^4095 times 2", x, e, api.ErrLong)
	x, e = ratio.Add(frac(whole(power2(4096, -1))), of("0"))
	isNumber(t, "2^4096 - 1 plus 0", x, e, whole(power2(4096, -1)))
}

func TestExampleTexts(t *testing.T) {
	for _, s := range []string{"-3/4", "5"} {
		if text, e := ratio.Text(of(s)); text != s || e != api.OK {
			t.Errorf("Text(%s) = %q, %d", s, text, e)
		}
	}
	for _, s := range []string{"-3/4", "0"} {
		x, e := ratio.Parse(s)
		isNumber(t, "Parse("+s+")", x, e, rat(s))
	}
	for _, s := range []string{"", "+1", "-0", "01", "2/4", "1/-2", "3/1", "1/0", " 1"} {
		isNoText(t, s, api.ErrForm)
	}
}

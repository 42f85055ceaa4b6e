package ratio_test

import (
	"math/big"
	"math/rand"
	"strings"
	"testing"

	"diapason/api"
	"diapason/ratio"
)

// P1.6, P1.7: texts are what R9 says, and come back.
func TestTexts(t *testing.T) {
	list := fractions()
	r := rand.New(rand.NewSource(9))
	for i := range 1000 {
		list = append(list, anyRat(r, 1+i%api.MaxBytes))
	}
	for n := range 60 {
		ten := new(big.Int).Exp(big.NewInt(10), big.NewInt(int64(n)), nil)
		list = append(list, whole(ten), over(big.NewInt(-1), ten), over(new(big.Int).Add(ten, big.NewInt(1)), ten))
	}
	for _, x := range list {
		want := x.RatString()
		if s, e := ratio.Text(frac(x)); s != want || e != api.OK {
			t.Errorf("Text of %s = %q, %d", want, s, e)
		}
		y, e := ratio.Parse(want)
		isNumber(t, "Parse("+want+")", y, e, x)
	}
	for _, x := range noFractions() {
		if s, e := ratio.Text(x); s != "" || e != api.ErrArg {
			t.Errorf("Text(%v) = %q, %d", x, s, e)
		}
	}
}

// isNoText holds Parse of a text against an error.
func isNoText(t *testing.T, s string, want api.Errno) {
	t.Helper()
	x, e := ratio.Parse(s)
	if e != want || x != (api.Frac{}) {
		if len(s) > 80 {
			s = s[:80] + ".."
		}
		t.Errorf("Parse(%q) = %v, %d; not %d", s, x, e, want)
	}
}

// P1.6: texts of no fraction.
func TestNoTexts(t *testing.T) {
	for _, s := range []string{
		"", "-", "/", "-/", "+1", "--1", "-0", "00", "01", "-01", "1.5", "1e3", "0x1", "1_0", "a", "1a", "a1", "\u0661", "\xff",
		" 1", "1 ", "1\n", "\t1", "1 /2", "1/ 2", "1/", "/2", "-/2", "1//2", "1/2/", "1/2/3", "/1/2",
		"1/-2", "1/+2", "-1/-2", "1/0", "0/0", "-1/0", "1/00", "1/02", "1/1", "3/1", "0/1", "-3/1", "0/5", "-0/5", "00/5", "1/01",
		"2/4", "-2/4", "6/3", "5/5", "10/15", "1/2x", "1\x00", "18446744073709551616/2", "1-", "1/2-", "1-/2", "-1-",
	} {
		isNoText(t, s, api.ErrForm)
	}
}

// P1.6: what is no text is that whatever its size; a text of a long number is long.
func TestLongTexts(t *testing.T) {
	nines, even := strings.Repeat("9", 2000), strings.Repeat("8", 2000)
	for _, s := range []string{"x" + nines, nines + "x", "-0" + nines, "0" + nines, nines + "/", nines + "/1", nines + "/0", nines + "/0" + nines, "0/" + nines, "-0/" + nines, nines + "/" + nines, nines + "/3", "3/" + nines, even + "/" + even + "2", "-" + even + "/2", "+" + nines, nines + "/-" + nines, nines + " "} {
		isNoText(t, s, api.ErrForm)
	}
	one := strings.Repeat("0", 1999) + "1"
	for _, s := range []string{nines, "-" + nines, nines + "/2", "2/" + nines, "-2/" + nines, "1" + one + "/" + nines + "8", nines + "/1" + strings.Repeat("0", 2000)} {
		isNoText(t, s, api.ErrLong)
	}
	// 2^4096 / 2 could be shortened to what may be: it is no text all the same.
	isNoText(t, power2(4096, 0).String()+"/2", api.ErrForm)
	isNoText(t, power2(4096, 0).String(), api.ErrLong)
	isNoText(t, "-"+power2(4096, 0).String(), api.ErrLong)
	isNoText(t, "1/"+power2(4096, 0).String(), api.ErrLong)
	isNoText(t, "-1/"+power2(4096, 1).String(), api.ErrLong)
	for _, x := range []*big.Rat{whole(power2(4096, -1)), over(big.NewInt(-1), power2(4096, -1)), over(power2(4096, -2), power2(4096, -1))} {
		y, e := ratio.Parse(x.RatString())
		isNumber(t, "Parse at the bound", y, e, x)
	}
}

// P1.6: texts of just MaxText bytes, and of one more, which are long whatever they are.
func TestTextsAtTheBound(t *testing.T) {
	half := strings.Repeat("7", api.MaxText/2)
	for _, c := range []struct {
		s    string
		want api.Errno
	}{
		{strings.Repeat("9", api.MaxText), api.ErrLong},
		{strings.Repeat("9", api.MaxText-1) + "x", api.ErrForm},
		{strings.Repeat("0", api.MaxText), api.ErrForm},
		{strings.Repeat(" ", api.MaxText), api.ErrForm},
		{half[1:] + "/" + half, api.ErrForm},
		{half[2:] + "0/" + half, api.ErrForm},
		{"1" + strings.Repeat("0", api.MaxText/2-2) + "/" + half, api.ErrLong},
		{"1" + strings.Repeat("0", api.MaxText/2-2) + "/" + half[1:] + "5", api.ErrForm},
	} {
		if len(c.s) != api.MaxText {
			t.Fatalf("a text of %d bytes", len(c.s))
		}
		isNoText(t, c.s, c.want)
		isNoText(t, c.s+"0", api.ErrLong)
		isNoText(t, c.s+"x", api.ErrLong)
	}
	isNoText(t, strings.Repeat("\x00", 4*api.MaxText), api.ErrLong)
}

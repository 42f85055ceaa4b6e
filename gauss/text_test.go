package gauss_test

import (
	"math/big"
	"math/rand"
	"strings"
	"testing"

	"diapason/api"
	"diapason/gauss"
)

// textOf puts a text together as the chapter says.
func textOf(z pair) string {
	re, im := z.re.RatString(), z.im.RatString()
	second := im + "i"
	if im == "1" {
		second = "i"
	} else if im == "-1" {
		second = "-i"
	}
	if im == "0" {
		return re
	} else if re == "0" {
		return second
	} else if z.im.Sign() > 0 {
		return re + "+" + second
	}
	return re + second
}

// P2.5, P2.6: texts, there and back.
func TestTexts(t *testing.T) {
	list := numbers()
	r := rand.New(rand.NewSource(6))
	for i := range 1000 {
		list = append(list, anyPair(r, 1+i%250))
	}
	for _, z := range list {
		want := textOf(z)
		if s, e := gauss.Text(z.number()); s != want || e != api.OK {
			t.Errorf("Text of %s = %q, %d", z.name(), s, e)
		}
		w, e := gauss.Parse(want)
		isNumber(t, "Parse("+want+")", w, e, z)
	}
	for _, wrong := range noNumbers() {
		if s, e := gauss.Text(wrong); s != "" || e != api.ErrArg {
			t.Errorf("Text(%v) = %q, %d", wrong, s, e)
		}
	}
}

// isNoText holds Parse of a text against an error.
func isNoText(t *testing.T, s string, want api.Errno) {
	t.Helper()
	z, e := gauss.Parse(s)
	if len(s) > 80 {
		s = s[:80] + ".."
	}
	isError(t, "Parse("+s+")", z, e, want)
}

// P2.5: texts of no number.
func TestNoTexts(t *testing.T) {
	for _, s := range []string{
		"", "+", "-", "+i", "--i", "+-i", "-+i", "ii", "i i", " i", "i ", "I", "j", "1j", "1+j", "i1", "i2", "-i1",
		"1i", "-1i", "+1i", "0i", "-0i", "+0i", "00i", "02i", "+2i", "2ii", "2i2", "i/2", "2/4i", "2/-3i", "3/1i", "1/0i", "0/2i", "1/1i",
		"0+i", "0-i", "0+2i", "0-1/2i", "-0+i", "0+0i", "1+0i", "1-0i", "1/2+0i", "1+1i", "1-1i", "1+01i", "1+2/4i", "2/4+i", "01+i", "1/1+i", "-0-i", "+1+i", "+1", "-0", "01",
		"i+1", "2i+1", "i+i", "i-i", "1+i+i", "1+i-i", "1+2+i", "1+i+2", "1+-i", "1-+i", "1--i", "1++i", "1+-2i", "1--2i", "1++2i", "1+", "1-", "1+2", "1-2", "1+2-", "1+i1",
		"1 +i", "1+ i", "1+i ", " 1+i", "1+i\n", "1 i", "1,i", "(1+i)", "1+2 i", "1/+2i", "1/-2i", "1+/2i", "1-/2i", "1/2/3i", "1+2/i", "/2i", "1.5i", "1e3i", "0xi", "1_0i", "\u0661i", "1+\xffi", "1+\x00i",
	} {
		isNoText(t, s, api.ErrForm)
	}
}

// P2.5: what is no text is that whatever its size, and in whichever part; a text of a long number is long.
func TestLongTexts(t *testing.T) {
	nines := strings.Repeat("9", 2000)
	for _, s := range []string{
		"x" + nines + "i", nines + "x", "-0" + nines + "i", nines + "/3i", nines + "+0i", nines + "+1i", "0+" + nines + "i", "+" + nines + "i",
		nines + "+-" + nines + "i", nines + "+x", nines + "+xi", "x+" + nines + "i", nines + "+2/4i", "2/4+" + nines + "i", "2/4-" + nines + "i", nines + "i+1", nines + "+" + nines, nines + "/" + nines + "-i", "01-" + nines + "i",
	} {
		isNoText(t, s, api.ErrForm)
	}
	for _, s := range []string{nines, "-" + nines, nines + "i", "-" + nines + "i", nines + "+i", nines + "-i", "1+" + nines + "i", "1-" + nines + "i", nines + "+" + nines + "i", "1/" + nines + "-1/2i", "-1/2+2/" + nines + "i"} {
		isNoText(t, s, api.ErrLong)
	}
	high := power2(4096, 0).RatString()
	for _, s := range []string{high, high + "i", "1+" + high + "i", "1/" + high + "-i", "3-1/" + high + "i"} {
		isNoText(t, s, api.ErrLong)
	}
	isNoText(t, high+"/2i", api.ErrForm)
}

// P2.5: texts of just MaxText bytes, and of one more, which are long whatever they are.
func TestTextsAtTheBound(t *testing.T) {
	sevens := strings.Repeat("7", api.MaxText)
	half := sevens[:api.MaxText/2-1]
	for _, c := range []struct {
		s    string
		want api.Errno
	}{
		{sevens, api.ErrLong},
		{sevens[1:] + "i", api.ErrLong},
		{sevens[2:] + "+i", api.ErrLong},
		{"1-" + sevens[3:] + "i", api.ErrLong},
		{half + "+" + half + "i", api.ErrLong},
		{half + "+" + half + "x", api.ErrForm},
		{half + "+0" + half[1:] + "i", api.ErrForm},
		{sevens[3:] + "+0i", api.ErrForm},
		{"0+" + sevens[3:] + "i", api.ErrForm},
		{strings.Repeat("i", api.MaxText), api.ErrForm},
		{strings.Repeat("+", api.MaxText), api.ErrForm},
	} {
		if len(c.s) != api.MaxText {
			t.Fatalf("a text of %d bytes", len(c.s))
		}
		isNoText(t, c.s, c.want)
		isNoText(t, c.s+"i", api.ErrLong)
		isNoText(t, c.s+"x", api.ErrLong)
	}
	greatest := power2(4096, -1)
	for _, z := range []pair{{greatest, new(big.Rat).Neg(greatest)}, {new(big.Rat).Inv(greatest), greatest}} {
		w, e := gauss.Parse(textOf(z))
		isNumber(t, "the greatest numbers", w, e, z)
	}
}

package grain_test

import (
	"fmt"
	"math"
	"math/rand"
	"strings"
	"testing"

	"diapason/api"
	"diapason/grain"
)

// isNoText holds Parse of a text against ErrForm.
func isNoText(t *testing.T, s string) {
	t.Helper()
	if v, e := grain.Parse(s); !same(v, 0) || e != api.ErrForm {
		t.Errorf("Parse(%.40q) = %x, %d", s, v, e)
	}
}

// isText asks for a float's text, and goes back.
func isText(t *testing.T, v float64) {
	t.Helper()
	want := fmt.Sprintf("%016x", math.Float64bits(v))
	if v != v {
		want = "7ff8000000000001"
	}
	if s := grain.Text(v); s != want {
		t.Errorf("Text(%x) = %q, not %q", v, s, want)
	}
	w, e := grain.Parse(want)
	if !same(w, v) || e != api.OK || !grain.Same(w, v) {
		t.Errorf("Parse(%q) = %x, %d", want, w, e)
	}
}

// P3.6, P3.7: texts, there and back; noughts keep their signs.
func TestTexts(t *testing.T) {
	for _, v := range append(edges(), notFinite()...) {
		isText(t, v)
	}
	r := rand.New(rand.NewSource(8))
	for range 20000 {
		isText(t, anyFloat(r))
		isText(t, math.Float64frombits(r.Uint64()))
	}
	for s, v := range map[string]float64{
		"0000000000000000": 0, "8000000000000000": minusNought, "7ff0000000000000": above, "fff0000000000000": below,
		"0000000000000001": least, "7fefffffffffffff": greatest, "bff8000000000000": -1.5, "7ff8000000000001": none,
	} {
		if w, e := grain.Parse(s); !same(w, v) || e != api.OK || grain.Text(v) != s {
			t.Errorf("Parse(%q) = %x, %d; Text(%x) = %q", s, w, e, v, grain.Text(v))
		}
	}
}

// P3.6: texts of no float: of other lengths, with other signs in them, of what is no number by other bits.
func TestNoTexts(t *testing.T) {
	for _, s := range []string{
		"", "0", "1", "3ff000000000000", "3ff00000000000000", "03ff0000000000000", " 3ff0000000000000", "3ff0000000000000 ", "3ff0000000000000\n",
		"3FF0000000000000", "3ff000000000000A", "+ff0000000000000", "-ff0000000000000", "0x3ff00000000000", "0X3ff00000000000", "3ff0_00000000000", "3ff00000_0000000",
		"7ff8000000000000", "7ff8000000000002", "7ff0000000000001", "7fffffffffffffff", "fff8000000000001", "fff0000000000001", "ffffffffffffffff", "fff8000000000000",
		"3ff000000000000g", "3ff00000.0000000", "3ff000000000\u0661\u0661", "3ff000000000000\x00", "3ff000000000000\xff", "NaN", "1.0", "Inf", "+Inf",
		strings.Repeat("0", 17), strings.Repeat("0", 32), strings.Repeat("0", api.MaxText), strings.Repeat("0", api.MaxText+1), strings.Repeat("f", 1<<20),
	} {
		isNoText(t, s)
	}
}

// P3.6: each byte at each place.
func TestDigits(t *testing.T) {
	const digits = "0123456789abcdef"
	for at := range 16 {
		for b := range 256 {
			s := []byte("3ac0000000000000")
			s[at] = byte(b)
			v, e := grain.Parse(string(s))
			if strings.IndexByte(digits, byte(b)) < 0 {
				isNoText(t, string(s))
			} else if e != api.OK || fmt.Sprintf("%016x", math.Float64bits(v)) != string(s) {
				t.Errorf("Parse(%q) = %x, %d", s, v, e)
			}
		}
	}
}

// P3.6: the same, or not.
func TestSame(t *testing.T) {
	list := append(edges(), notFinite()...)
	for _, a := range list {
		for _, b := range list {
			if grain.Same(a, b) != same(a, b) {
				t.Errorf("Same(%x, %x) = %v", a, b, grain.Same(a, b))
			}
		}
	}
	if grain.Same(0, minusNought) || !grain.Same(minusNought, minusNought) || !grain.Same(none, math.Float64frombits(0xfff8000000000077)) || grain.Same(none, above) || grain.Same(1, 1+unit) {
		t.Error("Same")
	}
}

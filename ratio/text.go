package ratio

import (
	"strings"

	"diapason/api"
	"diapason/exact"
	"diapason/nat"
)

// Text is the text of x.
func Text(x api.Frac) (string, api.Errno) {
	l, ok := read(x)
	if !ok {
		return "", api.ErrArg
	}
	s := l[0].Num().Text()
	if l[0].Sign() < 0 {
		s = "-" + s
	}
	if !l[0].IsWhole() {
		s += "/" + l[0].Den().Text()
	}
	return s, api.OK
}

// Parse reads what Text tells, and that form alone.
func Parse(s string) (api.Frac, api.Errno) {
	if len(s) > api.MaxText {
		return api.Frac{}, api.ErrLong
	}
	n, ok := number(s)
	if !ok {
		return api.Frac{}, api.ErrForm
	}
	return answer(n)
}

// number is that of a text, of whatever size, and whether the text is a fraction's.
func number(s string) (exact.Number, bool) {
	s, neg := strings.CutPrefix(s, "-")
	above, below, parted := strings.Cut(s, "/")
	num, ok := nat.Parse(above)
	if !ok || neg && len(num) == 0 {
		return exact.Number{}, false
	}
	den := nat.Of(1)
	if parted {
		den, ok = nat.Parse(below)
		if !ok || den.IsOne() {
			return exact.Number{}, false
		}
	}
	n := exact.Of(neg, num, den)
	// What could be shortened, or is over 0, is not in lowest terms as it stands, so the text is none.
	if len(den) == 0 || n.Den().Cmp(den) != 0 {
		return exact.Number{}, false
	}
	return n, true
}

package mode_test

import (
	"math/big"
	"math/rand"
	"slices"
	"strconv"
	"strings"
	"testing"

	"diapason/api"
)

// rat is the number of a text.
func rat(s string) *big.Rat {
	r, ok := new(big.Rat).SetString(s)
	if !ok {
		panic("no number: " + s)
	}
	return r
}

// whole is a whole number.
func whole(n int64) *big.Rat { return big.NewRat(n, 1) }

// power2 is 2^n + more.
func power2(n uint, more int64) *big.Rat {
	p := new(big.Int).Lsh(big.NewInt(1), n)
	return new(big.Rat).SetInt(p.Add(p, big.NewInt(more)))
}

// greatest is the greatest number that a fraction may be.
func greatest() *big.Rat { return power2(8*api.MaxBytes, -1) }

func plus(x, y *big.Rat) *big.Rat { return new(big.Rat).Add(x, y) }

func minus(x, y *big.Rat) *big.Rat { return new(big.Rat).Sub(x, y) }

func times(x, y *big.Rat) *big.Rat { return new(big.Rat).Mul(x, y) }

func over(x, y *big.Rat) *big.Rat { return new(big.Rat).Quo(x, y) }

func negated(x *big.Rat) *big.Rat { return new(big.Rat).Neg(x) }

// frac is the fraction of a number of the library's, whatever its size.
func frac(r *big.Rat) api.Frac {
	num := new(big.Int).Abs(r.Num())
	return api.Frac{Neg: r.Sign() < 0, Num: string(num.Bytes()), Den: string(r.Denom().Bytes())}
}

// value is the number of a fraction that may be.
func value(x api.Frac) *big.Rat {
	num := new(big.Int).SetBytes([]byte(x.Num))
	if x.Neg {
		num.Neg(num)
	}
	return new(big.Rat).SetFrac(num, new(big.Int).SetBytes([]byte(x.Den)))
}

// cut is the beginning of a text.
func cut(s string) string {
	if len(s) > 160 {
		return s[:160] + ".."
	}
	return s
}

// told is a fraction as a text, whether it may be or not.
func told(x api.Frac) string {
	if strings.Trim(x.Den, "\x00") == "" {
		return "none"
	}
	return cut(value(x).RatString())
}

// polyOf is the polynomial of a text: its coefficients, the lowest first.
func polyOf(s string) api.Poly {
	var p api.Poly
	for _, c := range strings.Fields(s) {
		p = append(p, frac(rat(c)))
	}
	return p
}

// polyName tells a polynomial.
func polyName(p api.Poly) string {
	texts := make([]string, len(p))
	for i, x := range p {
		texts[i] = told(x)
	}
	return "(" + cut(strings.Join(texts, " ")) + ")"
}

// gap is the gap between two numbers.
func gap(lo, hi *big.Rat) api.Gap { return api.Gap{Lo: frac(lo), Hi: frac(hi)} }

// modeOf is the told mode of a text: one number, two with "to" between them, or "half".
func modeOf(s string) api.Mode {
	if s == "half" {
		return api.Mode{Half: true}
	}
	lo, hi, _ := strings.Cut(s, "to")
	if hi == "" {
		hi = lo
	}
	return api.Mode{Gap: gap(rat(lo), rat(hi))}
}

// modesOf are those of a text.
func modesOf(s string) []api.Mode {
	var l []api.Mode
	for _, m := range strings.Fields(s) {
		l = append(l, modeOf(m))
	}
	return l
}

// modeName tells a mode.
func modeName(m api.Mode) string {
	switch {
	case m == api.Mode{Half: true}:
		return "half"
	case m.Half:
		return "half!" + told(m.Gap.Lo) + "to" + told(m.Gap.Hi)
	case m.Gap.Lo == m.Gap.Hi:
		return told(m.Gap.Lo)
	}
	return told(m.Gap.Lo) + "to" + told(m.Gap.Hi)
}

// modeNames tells modes.
func modeNames(l []api.Mode) string {
	texts := make([]string, len(l))
	for i, m := range l {
		texts[i] = modeName(m)
	}
	return "(" + cut(strings.Join(texts, " ")) + ")"
}

// pipe is the bore of a text's pieces, each as area x length.
func pipe(near, far int, s string) api.Bore {
	b := api.Bore{Near: near, Far: far}
	for _, p := range strings.Fields(s) {
		area, text, _ := strings.Cut(p, "x")
		long, err := strconv.Atoi(text)
		if err != nil {
			panic("no piece: " + p)
		}
		b.Pieces = append(b.Pieces, api.Piece{Area: frac(rat(area)), Long: long})
	}
	return b
}

// fourEnds are the bores of a text with each two ends.
func fourEnds(s string) []api.Bore {
	return []api.Bore{pipe(api.Stopped, api.Stopped, s), pipe(api.Stopped, api.Open, s), pipe(api.Open, api.Stopped, s), pipe(api.Open, api.Open, s)}
}

// name tells a bore.
func name(b api.Bore) string {
	texts := make([]string, len(b.Pieces))
	for i, p := range b.Pieces {
		texts[i] = told(p.Area) + "x" + strconv.Itoa(p.Long)
	}
	return "(" + cut(strings.Join(texts, " ")) + ", " + strconv.Itoa(b.Near) + ", " + strconv.Itoa(b.Far) + ")"
}

// isPoly holds an answer against a polynomial.
func isPoly(t *testing.T, what string, p api.Poly, e api.Errno, want api.Poly) {
	t.Helper()
	if !slices.Equal(p, want) || e != api.OK {
		t.Errorf("%s: %s, %d; not %s", what, polyName(p), e, polyName(want))
	}
}

// areModes holds an answer against told modes.
func areModes(t *testing.T, what string, l []api.Mode, e api.Errno, want []api.Mode) {
	t.Helper()
	if !slices.Equal(l, want) || e != api.OK {
		t.Errorf("%s: %s, %d; not %s", what, modeNames(l), e, modeNames(want))
	}
}

// areNone asks for an error, beside which there is nothing.
func areNone(t *testing.T, what string, l []api.Mode, e, want api.Errno) {
	t.Helper()
	if e != want || len(l) > 0 {
		t.Errorf("%s: %s, %d; not the error %d", what, modeNames(l), e, want)
	}
}

// isNumber holds an answer against a number, or a false or true.
func isNumber[T comparable](t *testing.T, what string, got T, e api.Errno, want T, wantE api.Errno) {
	t.Helper()
	if got != want || e != wantE {
		t.Errorf("%s: %v, %d; not %v, %d", what, got, e, want, wantE)
	}
}

// noFractions are fractions that may not be.
func noFractions() []api.Frac {
	long := "\x01" + strings.Repeat("\x00", api.MaxBytes)
	return []api.Frac{
		{}, {Den: "\x02"}, {Neg: true, Den: "\x01"}, {Num: "\x01"}, {Num: "\x02", Den: "\x04"}, {Num: "\x00\x01", Den: "\x03"},
		{Num: "\x01", Den: "\x00\x03"}, {Num: "\x01", Den: "\x00"}, {Num: long, Den: "\x01"}, {Num: "\x01", Den: long},
	}
}

// noGaps are gaps that may not be.
func noGaps() []api.Gap {
	one := frac(whole(1))
	list := []api.Gap{
		{}, {Lo: one}, {Hi: one}, gap(whole(2), whole(1)), gap(whole(0), whole(-1)), gap(whole(1), rat("99/100")), gap(rat("-1/3"), rat("-1/2")),
		gap(greatest(), minus(greatest(), whole(1))), gap(over(whole(1), greatest()), whole(0)),
	}
	for _, x := range noFractions() {
		list = append(list, api.Gap{Lo: x, Hi: one}, api.Gap{Lo: one, Hi: x}, api.Gap{Lo: x, Hi: x})
	}
	return list
}

// noBores are bores that may not be: an end is none, a piece may not be, there are too many, or none, or they are too long.
func noBores() []api.Bore {
	list := []api.Bore{{}, pipe(api.Stopped, api.Open, ""), {Pieces: make([]api.Piece, 1<<16), Near: api.Open, Far: api.Open}}
	for _, end := range []int{0, 3, -1, 1 << 30, -1 << 31} {
		list = append(list, pipe(end, api.Open, "1x1"), pipe(api.Stopped, end, "1x1"))
	}
	for _, s := range []string{"0x1", "-1x1", "65536x1", "1/65536x1", "1x0", "1x-1", "1x33", "1x16 2x17", "1x1 0x1", "1x2147483647 1x1", strings.Repeat("1x1 ", 33)} {
		list = append(list, pipe(api.Stopped, api.Open, s))
	}
	for _, x := range noFractions() {
		list = append(list, api.Bore{Pieces: []api.Piece{{Area: x, Long: 1}}, Near: api.Open, Far: api.Open})
	}
	return list
}

// anyArea makes areas, some of them the greatest and the least.
func anyArea(r *rand.Rand, most int64) *big.Rat {
	switch r.Intn(12) {
	case 0:
		return whole(api.MaxArea)
	case 1:
		return big.NewRat(1, api.MaxArea)
	}
	return big.NewRat(1+r.Int63n(most), 1+r.Int63n(most))
}

// anyBore makes bores of at most so many cells, with some pieces of their neighbours' area.
func anyBore(r *rand.Rand, cells int) api.Bore {
	b := api.Bore{Near: 1 + r.Intn(2), Far: 1 + r.Intn(2)}
	longest, most := 1+r.Intn(9), []int64{3, 9, api.MaxArea}[r.Intn(3)]
	for left := 1 + r.Intn(cells); left > 0; {
		p := api.Piece{Area: frac(anyArea(r, most)), Long: 1 + r.Intn(min(left, longest))}
		if n := len(b.Pieces); n > 0 && r.Intn(4) == 0 {
			p.Area = b.Pieces[n-1].Area
		}
		b.Pieces = append(b.Pieces, p)
		left -= p.Long
	}
	return b
}

// bores are bores that may be, with the edges of the document among them, and so many any ones.
func bores(seed int64, more int) []api.Bore {
	var list []api.Bore
	for _, s := range []string{
		"1x1", "1x2", "65535x3", "1/65535x4", "1x6", "1x12", "3/2x24", "1x32", "1x2 3/2x1", "1x1 3x1", "3x1 1x1", "1x1 3x1 1x2", "1x1 2x1 3x1 2x1 1x1", "1x8 2x8", "1x16 3x16",
		"1/65535x1 65535x1 1/65535x1", "65535x2 1/65535x1 65535x1", strings.Repeat("1x1 3x1 ", 16), strings.Repeat("65535x1 1/65535x1 ", 16), strings.Repeat("2x1 2x1 3x2 ", 8),
	} {
		list = append(list, fourEnds(s)...)
	}
	r := rand.New(rand.NewSource(seed))
	for range more {
		list = append(list, anyBore(r, []int{5, 12, api.MaxDegree}[r.Intn(3)]))
	}
	return list
}

package echo_test

import (
	"math"
	"math/big"
	"math/rand"
	"strconv"
	"strings"
	"testing"

	"diapason/api"
	"diapason/gauss"
)

// rat is the number of a text.
func rat(s string) *big.Rat {
	r, ok := new(big.Rat).SetString(s)
	if !ok {
		panic("no number: " + s)
	}
	return r
}

// whole is a whole number.
func whole(n int64) *big.Rat { return big.NewRat(n, 1) }

// power2 is 2^n + more.
func power2(n uint, more int64) *big.Rat {
	p := new(big.Int).Lsh(big.NewInt(1), n)
	return new(big.Rat).SetInt(p.Add(p, big.NewInt(more)))
}

func plus(x, y *big.Rat) *big.Rat { return new(big.Rat).Add(x, y) }

func minus(x, y *big.Rat) *big.Rat { return new(big.Rat).Sub(x, y) }

func over(x, y *big.Rat) *big.Rat { return new(big.Rat).Quo(x, y) }

func negated(x *big.Rat) *big.Rat { return new(big.Rat).Neg(x) }

// frac is the fraction of a number of the library's, whatever its size.
func frac(r *big.Rat) api.Frac {
	num := new(big.Int).Abs(r.Num())
	return api.Frac{Neg: r.Sign() < 0, Num: string(num.Bytes()), Den: string(r.Denom().Bytes())}
}

// value is the number of a fraction that may be.
func value(x api.Frac) *big.Rat {
	num := new(big.Int).SetBytes([]byte(x.Num))
	if x.Neg {
		num.Neg(num)
	}
	return new(big.Rat).SetFrac(num, new(big.Int).SetBytes([]byte(x.Den)))
}

// isLong tells whether a number has more bytes than a fraction's may have.
func isLong(r *big.Rat) bool {
	return len(r.Num().Bytes()) > api.MaxBytes || len(r.Denom().Bytes()) > api.MaxBytes
}

// number is the complex number of a text.
func number(s string) api.Gauss {
	z, e := gauss.Parse(s)
	if e != api.OK {
		panic("no number: " + s)
	}
	return z
}

// cut is the beginning of a text.
func cut(s string) string {
	if len(s) > 160 {
		return s[:160] + ".."
	}
	return s
}

// told is a fraction as a text, whether it may be or not.
func told(x api.Frac) string {
	if strings.Trim(x.Den, "\x00") == "" {
		return "none"
	}
	return cut(value(x).RatString())
}

// shown is a complex number as a text, whether it may be or not.
func shown(z api.Gauss) string { return told(z.Re) + " and " + told(z.Im) + "i" }

// pipe is the bore of a text's pieces, each as area x length, stopped at the mouth.
func pipe(far int, s string) api.Bore {
	b := api.Bore{Near: api.Stopped, Far: far}
	for _, p := range strings.Fields(s) {
		area, text, _ := strings.Cut(p, "x")
		long, err := strconv.Atoi(text)
		if err != nil {
			panic("no piece: " + p)
		}
		b.Pieces = append(b.Pieces, api.Piece{Area: frac(rat(area)), Long: long})
	}
	return b
}

// name tells a bore.
func name(b api.Bore) string {
	texts := make([]string, len(b.Pieces))
	for i, p := range b.Pieces {
		texts[i] = told(p.Area) + "x" + strconv.Itoa(p.Long)
	}
	return "(" + cut(strings.Join(texts, " ")) + ", " + strconv.Itoa(b.Near) + ", " + strconv.Itoa(b.Far) + ")"
}

// same tells whether two floats have the same bits, or both are no numbers.
func same(a, b float64) bool {
	return a != a && b != b || math.Float64bits(a) == math.Float64bits(b)
}

// sameNumber tells whether two are of the same floats.
func sameNumber(a, b complex128) bool { return same(real(a), real(b)) && same(imag(a), imag(b)) }

// sameDisc tells whether two discs are of the same floats.
func sameDisc(a, b api.Disc) bool { return sameNumber(a.C, b.C) && same(a.R, b.R) }

// isGauss holds an answer against a number: ErrLong, if that has too many bytes.
func isGauss(t *testing.T, what string, z api.Gauss, e api.Errno, want api.Gauss) {
	t.Helper()
	switch {
	case isLong(value(want.Re)) || isLong(value(want.Im)):
		isNoGauss(t, what, z, e, api.ErrLong)
	case z != want || e != api.OK:
		t.Errorf("%s: %s, %d; not %s", what, shown(z), e, shown(want))
	}
}

// isNoGauss asks for an error, beside which there is the zero value.
func isNoGauss(t *testing.T, what string, z api.Gauss, e, want api.Errno) {
	t.Helper()
	if e != want || z != (api.Gauss{}) {
		t.Errorf("%s: %s, %d; not the error %d", what, shown(z), e, want)
	}
}

// isNumber holds an answer by floats against a number; of an error against 0.
func isNumber(t *testing.T, what string, z complex128, e api.Errno, want complex128, wantE api.Errno) {
	t.Helper()
	if !sameNumber(z, want) || e != wantE {
		t.Errorf("%s: %x, %d; not %x, %d", what, z, e, want, wantE)
	}
}

// isDisc holds an answer by discs against a disc; of an error against the zero value.
func isDisc(t *testing.T, what string, d api.Disc, e api.Errno, want api.Disc, wantE api.Errno) {
	t.Helper()
	if !sameDisc(d, want) || e != wantE {
		t.Errorf("%s: %x, %d; not %x, %d", what, d, e, want, wantE)
	}
}

// noFractions are fractions that may not be.
func noFractions() []api.Frac {
	long := "\x01" + strings.Repeat("\x00", api.MaxBytes)
	return []api.Frac{
		{}, {Den: "\x02"}, {Neg: true, Den: "\x01"}, {Num: "\x01"}, {Num: "\x02", Den: "\x04"}, {Num: "\x00\x01", Den: "\x03"},
		{Num: "\x01", Den: "\x00\x03"}, {Num: "\x01", Den: "\x00"}, {Num: long, Den: "\x01"}, {Num: "\x01", Den: long},
		// One that is in no lowest terms and has more bytes than a half tangent may have.
		{Num: "\x02" + strings.Repeat("\x00", 40), Den: "\x04"},
	}
}

// noBores are bores that may not be.
func noBores() []api.Bore {
	list := []api.Bore{{}, pipe(api.Stopped, ""), {Near: api.Open, Far: api.Open}}
	for _, end := range []int{0, 3, -1, 1 << 30, math.MinInt32} {
		near := pipe(api.Open, "1x1")
		near.Near = end
		list = append(list, near, pipe(end, "1x1"), pipe(end, "1x1 3x1"))
	}
	for _, s := range []string{"0x1", "-1x1", "65536x1", "1/65536x1", "1x0", "1x-1", "1x33", "1x32 1x1", "1x1 0x1", strings.Repeat("1x1 ", 33), strings.Repeat("1x32 ", 64)} {
		list = append(list, pipe(api.Stopped, s), pipe(api.Open, s))
	}
	for _, x := range noFractions() {
		list = append(list, api.Bore{Pieces: []api.Piece{{Area: x, Long: 1}}, Near: api.Stopped, Far: api.Stopped})
	}
	return list
}

// anyArea makes areas, some of them the greatest and the least.
func anyArea(r *rand.Rand) *big.Rat {
	switch r.Intn(8) {
	case 0:
		return whole(api.MaxArea)
	case 1:
		return big.NewRat(1, api.MaxArea)
	case 2, 3:
		return big.NewRat(1+r.Int63n(9), 1+r.Int63n(9))
	}
	return big.NewRat(1+r.Int63n(api.MaxArea), 1+r.Int63n(api.MaxArea))
}

// anyBore makes bores of any length, and of pieces of any length.
func anyBore(r *rand.Rand) api.Bore {
	b := api.Bore{Near: 1 + r.Intn(2), Far: 1 + r.Intn(2)}
	most := 1 + r.Intn(9)
	for left := 1 + r.Intn(api.MaxDegree); left > 0; {
		p := api.Piece{Area: frac(anyArea(r)), Long: 1 + r.Intn(min(left, most))}
		b.Pieces = append(b.Pieces, p)
		left -= p.Long
	}
	return b
}

// mildBore makes bores that are not much wider anywhere than elsewhere.
func mildBore(r *rand.Rand) api.Bore {
	b := api.Bore{Near: 1 + r.Intn(2), Far: 1 + r.Intn(2)}
	for range 1 + r.Intn(api.MaxDegree) {
		b.Pieces = append(b.Pieces, api.Piece{Area: frac(big.NewRat(3+r.Int63n(4), 1+r.Int63n(2))), Long: 1})
	}
	return b
}

// bores are bores that may be, with the edges of the document among them.
func bores(seed int64, count int) []api.Bore {
	var list []api.Bore
	for _, s := range []string{
		"1x1", "1x2", "1x3", "3/2x4", "1x31", "1x32", "65535x1", "1/65535x32", "1x1 3x1", "3x1 1x1", "1x1 3x1 2x1 5x1", "65535/65534x32", "65534/65535x1 65535/65534x31",
		"1/65535x1 65535x1 1/65535x1", "65535x1 1/65535x1", "65535x1 1/65535x1 1x1", "49x1 1x1", "49x1 1x1 3x2", "1x1 1x2 2x1", "2x16 3x16",
		strings.Repeat("1x1 3x1 ", 16), strings.Repeat("65535x1 1/65535x1 ", 16), strings.Repeat("1x1 65535/65534x1 ", 16), strings.Repeat("2x1 2x1 3x2 ", 8),
	} {
		list = append(list, pipe(api.Stopped, s), pipe(api.Open, s))
	}
	r := rand.New(rand.NewSource(seed))
	for i := range count {
		if i%2 == 0 {
			list = append(list, anyBore(r))
		} else {
			list = append(list, mildBore(r))
		}
	}
	return list
}

// anyTangent makes half tangents of at most so many bytes above and below.
func anyTangent(r *rand.Rand, bytes int) *big.Rat {
	top := new(big.Int).Lsh(big.NewInt(1), uint(8*(1+r.Intn(bytes))))
	den := new(big.Int).Rand(r, new(big.Int).Sub(top, big.NewInt(1)))
	num := new(big.Int).Rand(r, top)
	if r.Intn(2) == 0 {
		num.Neg(num)
	}
	return new(big.Rat).SetFrac(num, den.Add(den, big.NewInt(1)))
}

// tangents are half tangents, those of just 32 bytes among them.
func tangents() []*big.Rat {
	var list []*big.Rat
	for _, t := range []*big.Rat{
		whole(1), whole(2), whole(3), whole(7), whole(65535), rat("3/4"), rat("7/24"), rat("255/256"), rat("355/113"), power2(64, 1),
		power2(255, 0), power2(256, -1), over(power2(256, -1), power2(256, -2)), over(power2(256, -1), power2(255, 0)), over(power2(128, 1), power2(127, 0)),
	} {
		list = append(list, t, negated(t), over(whole(1), t), over(whole(-1), t))
	}
	return append(list, whole(0))
}

// longTangents are half tangents with numbers of more than 32 bytes.
func longTangents() []*big.Rat {
	var list []*big.Rat
	for _, t := range []*big.Rat{power2(256, 0), power2(256, 1), over(power2(256, 0), power2(256, -1)), over(power2(256, 0), power2(256, 1)), over(power2(300, 1), whole(2)), power2(4096, -1)} {
		list = append(list, t, negated(t), over(whole(1), t), over(whole(-1), t))
	}
	return list
}

// wrongTurns are numbers n of which there are no 2^n parts of a turn, and why.
func wrongTurns() map[int]api.Errno {
	return map[int]api.Errno{
		-1: api.ErrArg, -2: api.ErrArg, -64: api.ErrArg, math.MinInt: api.ErrArg,
		17: api.ErrLong, 18: api.ErrLong, 63: api.ErrLong, 64: api.ErrLong, math.MaxInt: api.ErrLong,
	}
}

// places are parts of a turn of 2^n: the quarters, some others, some that are below 0, or beyond a turn.
func places(r *rand.Rand, n int) []int {
	list := []int{0, 1, -1, 2, 1 << n / 4, 1 << n / 2, 3 << n / 4, 1<<n - 1, 1 << n, 1<<n + 1, math.MinInt, math.MaxInt}
	for range 8 {
		list = append(list, r.Intn(1<<n), int(r.Uint64()))
	}
	return list
}

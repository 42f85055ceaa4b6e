package bore_test

import (
	"math/big"
	"math/rand"
	"slices"
	"strconv"
	"strings"
	"testing"

	"diapason/api"
)

// rat is the number of a text.
func rat(s string) *big.Rat {
	r, ok := new(big.Rat).SetString(s)
	if !ok {
		panic("no number: " + s)
	}
	return r
}

// rats are the numbers of a text with blanks between them.
func rats(s string) []*big.Rat {
	var l []*big.Rat
	for _, c := range strings.Fields(s) {
		l = append(l, rat(c))
	}
	return l
}

// whole is a whole number.
func whole(n int64) *big.Rat { return big.NewRat(n, 1) }

// power2 is 2^n + more.
func power2(n uint, more int64) *big.Rat {
	p := new(big.Int).Lsh(big.NewInt(1), n)
	return new(big.Rat).SetInt(p.Add(p, big.NewInt(more)))
}

// greatest is the greatest number that a fraction may be.
func greatest() *big.Rat { return power2(8*api.MaxBytes, -1) }

func plus(x, y *big.Rat) *big.Rat { return new(big.Rat).Add(x, y) }

func minus(x, y *big.Rat) *big.Rat { return new(big.Rat).Sub(x, y) }

func times(x, y *big.Rat) *big.Rat { return new(big.Rat).Mul(x, y) }

func over(x, y *big.Rat) *big.Rat { return new(big.Rat).Quo(x, y) }

func negated(x *big.Rat) *big.Rat { return new(big.Rat).Neg(x) }

// reflection is that between two areas.
func reflection(s, t *big.Rat) *big.Rat { return over(minus(s, t), plus(s, t)) }

// frac is the fraction of a number of the library's, whatever its size.
func frac(r *big.Rat) api.Frac {
	num := new(big.Int).Abs(r.Num())
	return api.Frac{Neg: r.Sign() < 0, Num: string(num.Bytes()), Den: string(r.Denom().Bytes())}
}

// fracs are the fractions of numbers.
func fracs(l []*big.Rat) []api.Frac {
	list := make([]api.Frac, len(l))
	for i, x := range l {
		list[i] = frac(x)
	}
	return list
}

// value is the number of a fraction that may be.
func value(x api.Frac) *big.Rat {
	num := new(big.Int).SetBytes([]byte(x.Num))
	if x.Neg {
		num.Neg(num)
	}
	return new(big.Rat).SetFrac(num, new(big.Int).SetBytes([]byte(x.Den)))
}

// isLong tells whether a number has more bytes than a fraction's may have.
func isLong(r *big.Rat) bool {
	return len(r.Num().Bytes()) > api.MaxBytes || len(r.Denom().Bytes()) > api.MaxBytes
}

// isArea tells whether a piece may have this area.
func isArea(r *big.Rat) bool {
	most := big.NewInt(65535)
	return r.Sign() > 0 && r.Num().Cmp(most) <= 0 && r.Denom().Cmp(most) <= 0
}

// piece is one of a number and a length.
func piece(area string, long int) api.Piece { return api.Piece{Area: frac(rat(area)), Long: long} }

// pieces are those of a text: each as area x length.
func pieces(s string) []api.Piece {
	var l []api.Piece
	for _, p := range strings.Fields(s) {
		area, text, _ := strings.Cut(p, "x")
		long, err := strconv.Atoi(text)
		if err != nil {
			panic("no piece: " + p)
		}
		l = append(l, piece(area, long))
	}
	return l
}

// pipe is the bore of a text's pieces.
func pipe(near, far int, s string) api.Bore {
	return api.Bore{Pieces: pieces(s), Near: near, Far: far}
}

// row is the chain of a text.
func row(s string, far int) api.Chain { return api.Chain{K: fracs(rats(s)), Far: far} }

// cells are the areas of the bore's cells, by the document's own words.
func cells(b api.Bore) []*big.Rat {
	var l []*big.Rat
	for _, p := range b.Pieces {
		for range p.Long {
			l = append(l, value(p.Area))
		}
	}
	return l
}

// cut is the beginning of a text.
func cut(s string) string {
	if len(s) > 160 {
		return s[:160] + ".."
	}
	return s
}

// told is a fraction as a text, whether it may be or not.
func told(x api.Frac) string {
	if strings.Trim(x.Den, "\x00") == "" {
		return "none"
	}
	return cut(value(x).RatString())
}

// shown are fractions as a text.
func shown(l []api.Frac) string {
	texts := make([]string, len(l))
	for i, x := range l {
		texts[i] = told(x)
	}
	return "(" + cut(strings.Join(texts, " ")) + ")"
}

// name tells pieces.
func name(l []api.Piece) string {
	texts := make([]string, len(l))
	for i, p := range l {
		texts[i] = told(p.Area) + "x" + strconv.Itoa(p.Long)
	}
	return "(" + cut(strings.Join(texts, " ")) + ")"
}

// isFrac holds an answer against a number.
func isFrac(t *testing.T, what string, x api.Frac, e api.Errno, want *big.Rat) {
	t.Helper()
	if x != frac(want) || e != api.OK {
		t.Errorf("%s: %s, %d; not %s", what, told(x), e, cut(want.RatString()))
	}
}

// isList holds an answer against numbers.
func isList(t *testing.T, what string, l []api.Frac, e api.Errno, want []*big.Rat) {
	t.Helper()
	if !slices.Equal(l, fracs(want)) || e != api.OK {
		t.Errorf("%s: %s, %d; not %s", what, shown(l), e, shown(fracs(want)))
	}
}

// isChain holds an answer against reflections and a sign.
func isChain(t *testing.T, what string, c api.Chain, e api.Errno, k []*big.Rat, far int) {
	t.Helper()
	isList(t, what, c.K, e, k)
	if c.Far != far {
		t.Errorf("%s: the sign %d, not %d", what, c.Far, far)
	}
}

// isPieces holds an answer against pieces.
func isPieces(t *testing.T, what string, l []api.Piece, e api.Errno, want []api.Piece) {
	t.Helper()
	if !slices.Equal(l, want) || e != api.OK {
		t.Errorf("%s: %s, %d; not %s", what, name(l), e, name(want))
	}
}

// isBore holds an answer against a bore.
func isBore(t *testing.T, what string, b api.Bore, e api.Errno, want api.Bore) {
	t.Helper()
	isPieces(t, what, b.Pieces, e, want.Pieces)
	if b.Near != want.Near || b.Far != want.Far {
		t.Errorf("%s: the ends %d and %d, not %d and %d", what, b.Near, b.Far, want.Near, want.Far)
	}
}

// isNoBore asks for an error, beside which there is nothing.
func isNoBore(t *testing.T, what string, b api.Bore, e, want api.Errno) {
	t.Helper()
	if e != want || len(b.Pieces) > 0 || b.Near != 0 || b.Far != 0 {
		t.Errorf("%s: %s, %d, %d, %d; not the error %d", what, name(b.Pieces), b.Near, b.Far, e, want)
	}
}

// noFractions are fractions that may not be.
func noFractions() []api.Frac {
	long := "\x01" + strings.Repeat("\x00", api.MaxBytes)
	return []api.Frac{
		{}, {Den: "\x02"}, {Neg: true, Den: "\x01"}, {Num: "\x01"}, {Num: "\x02", Den: "\x04"}, {Num: "\x00\x01", Den: "\x03"},
		{Num: "\x01", Den: "\x00\x03"}, {Num: "\x01", Den: "\x00"}, {Num: long, Den: "\x01"}, {Num: "\x01", Den: long},
	}
}

// notAbove are fractions that may not be, or are not above 0.
func notAbove() []api.Frac {
	return append(noFractions(), frac(whole(0)), frac(whole(-1)), frac(rat("-1/3")), frac(negated(greatest())))
}

// noPieces are pieces that may not be.
func noPieces() []api.Piece {
	var list []api.Piece
	for _, x := range notAbove() {
		list = append(list, api.Piece{Area: x, Long: 1})
	}
	for _, s := range []string{"65536", "1/65536", "65537/2", "2/65537", "65536/65537", "65535/65536", "65536/65535", "16777216"} {
		list = append(list, piece(s, 1))
	}
	for _, x := range []*big.Rat{greatest(), over(whole(1), greatest()), power2(64, 0), power2(64, 1), over(whole(1), power2(64, 1)), over(power2(64, 0), power2(64, 1))} {
		list = append(list, api.Piece{Area: frac(x), Long: 1})
	}
	for _, long := range []int{0, -1, 33, 64, 1 << 30, -1 << 31, 1<<31 - 1} {
		list = append(list, piece("1", long))
	}
	return append(list, api.Piece{})
}

// noBores are bores that may not be: an end is none, a piece may not be, wherever it stands, or there are too many, or none, or they are too long.
func noBores() []api.Bore {
	list := []api.Bore{{}, pipe(api.Stopped, api.Open, ""), {Pieces: make([]api.Piece, 1<<16), Near: api.Open, Far: api.Open}}
	for _, end := range []int{0, 3, -1, -2, 4, 1 << 30, -1 << 31, 1<<31 - 1} {
		list = append(list, pipe(end, api.Open, "1x1"), pipe(api.Stopped, end, "1x1"), pipe(end, end, "1x1 2x2"))
	}
	for _, s := range []string{
		"1x33", "1x32 1x1", "1x1 2x32", "1x20 1x13", "1x16 2x16 3x1", "1x32 1x32", strings.Repeat("1x1 ", 33), strings.Repeat("1x1 2x1 ", 17), strings.Repeat("1x16 ", 32), strings.Repeat("1x32 ", 4096),
	} {
		list = append(list, pipe(api.Stopped, api.Stopped, s), pipe(api.Open, api.Open, s))
	}
	for _, p := range noPieces() {
		one := piece("1", 1)
		last := append(pieces(strings.Repeat("1x1 ", 31)), p)
		for _, l := range [][]api.Piece{{p}, {p, one}, {one, p}, {one, p, one}, last} {
			list = append(list, api.Bore{Pieces: l, Near: api.Open, Far: api.Stopped})
		}
	}
	return list
}

// anyArea makes areas, some of them the greatest and the least.
func anyArea(r *rand.Rand) *big.Rat {
	switch r.Intn(8) {
	case 0:
		return whole(api.MaxArea)
	case 1:
		return big.NewRat(1, api.MaxArea)
	case 2, 3:
		return big.NewRat(1+r.Int63n(9), 1+r.Int63n(9))
	}
	return big.NewRat(1+r.Int63n(api.MaxArea), 1+r.Int63n(api.MaxArea))
}

// anyBore makes bores with some pieces of their neighbours' area.
func anyBore(r *rand.Rand) api.Bore {
	b := api.Bore{Near: 1 + r.Intn(2), Far: 1 + r.Intn(2)}
	most := 1 + r.Intn(9)
	for left := 1 + r.Intn(api.MaxDegree); left > 0; {
		p := api.Piece{Area: frac(anyArea(r)), Long: 1 + r.Intn(min(left, most))}
		if n := len(b.Pieces); n > 0 && r.Intn(3) == 0 {
			p.Area = b.Pieces[n-1].Area
		}
		b.Pieces = append(b.Pieces, p)
		left -= p.Long
	}
	return b
}

// bores are bores that may be, with the edges of the document among them.
func bores(seed int64) []api.Bore {
	var list []api.Bore
	for _, s := range []string{
		"1x1", "1x32", "3/2x2", "65535x1", "1/65535x32", "65535/65534x32", "65534/65535x1 65535/65534x31", "1x2 3/2x1", "1x1 3x1", "1x1 3x1 1x2", "1x1 1x2 2x1", "2x16 2x16",
		"1/65535x1 65535x1 1/65535x1", "1x1 2x1 1x1 1x1 2x2 2x3 1x4", strings.Repeat("1x1 ", 32), strings.Repeat("1x1 3x1 ", 16), strings.Repeat("65535x1 1/65535x1 ", 16), strings.Repeat("2x1 2x1 3x2 ", 8),
	} {
		for _, near := range []int{api.Stopped, api.Open} {
			list = append(list, pipe(near, api.Stopped, s), pipe(near, api.Open, s))
		}
	}
	r := rand.New(rand.NewSource(seed))
	for range 400 {
		list = append(list, anyBore(r))
	}
	return list
}

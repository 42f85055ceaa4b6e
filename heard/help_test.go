package heard_test

import (
	"math/big"
	"math/rand"
	"slices"
	"sort"
	"strconv"
	"strings"
	"testing"

	"diapason/api"
	"diapason/wave"
)

// rat is the number of a text.
func rat(s string) *big.Rat {
	r, ok := new(big.Rat).SetString(s)
	if !ok {
		panic("no number: " + s)
	}
	return r
}

// rats are the numbers of a text with blanks between them.
func rats(s string) []*big.Rat {
	var l []*big.Rat
	for _, c := range strings.Fields(s) {
		l = append(l, rat(c))
	}
	return l
}

// whole is a whole number.
func whole(n int64) *big.Rat { return big.NewRat(n, 1) }

// power2 is 2^n + more.
func power2(n uint, more int64) *big.Rat {
	p := new(big.Int).Lsh(big.NewInt(1), n)
	return new(big.Rat).SetInt(p.Add(p, big.NewInt(more)))
}

// greatest is the greatest number that a fraction may be.
func greatest() *big.Rat { return power2(8*api.MaxBytes, -1) }

func plus(x, y *big.Rat) *big.Rat { return new(big.Rat).Add(x, y) }

func minus(x, y *big.Rat) *big.Rat { return new(big.Rat).Sub(x, y) }

func times(x, y *big.Rat) *big.Rat { return new(big.Rat).Mul(x, y) }

func over(x, y *big.Rat) *big.Rat { return new(big.Rat).Quo(x, y) }

func negated(x *big.Rat) *big.Rat { return new(big.Rat).Neg(x) }

// frac is the fraction of a number of the library's, whatever its size.
func frac(r *big.Rat) api.Frac {
	num := new(big.Int).Abs(r.Num())
	return api.Frac{Neg: r.Sign() < 0, Num: string(num.Bytes()), Den: string(r.Denom().Bytes())}
}

// fracs are the fractions of numbers.
func fracs(l []*big.Rat) []api.Frac {
	list := make([]api.Frac, len(l))
	for i, x := range l {
		list[i] = frac(x)
	}
	return list
}

// value is the number of a fraction that may be.
func value(x api.Frac) *big.Rat {
	num := new(big.Int).SetBytes([]byte(x.Num))
	if x.Neg {
		num.Neg(num)
	}
	return new(big.Rat).SetFrac(num, new(big.Int).SetBytes([]byte(x.Den)))
}

// isLong tells whether a number has more bytes than a fraction's may have.
func isLong(r *big.Rat) bool {
	return len(r.Num().Bytes()) > api.MaxBytes || len(r.Denom().Bytes()) > api.MaxBytes
}

// cut is the beginning of a text.
func cut(s string) string {
	if len(s) > 160 {
		return s[:160] + ".."
	}
	return s
}

// told is a fraction as a text, whether it may be or not.
func told(x api.Frac) string {
	if strings.Trim(x.Den, "\x00") == "" {
		return "none"
	}
	return cut(value(x).RatString())
}

// shown are fractions as a text.
func shown(l []api.Frac) string {
	texts := make([]string, len(l))
	for i, x := range l {
		texts[i] = told(x)
	}
	return "(" + cut(strings.Join(texts, " ")) + ")"
}

// name tells a bore.
func name(b api.Bore) string {
	texts := make([]string, len(b.Pieces))
	for i, p := range b.Pieces {
		texts[i] = told(p.Area) + "x" + strconv.Itoa(p.Long)
	}
	return "(" + cut(strings.Join(texts, " ")) + ", " + strconv.Itoa(b.Near) + ", " + strconv.Itoa(b.Far) + ")"
}

// isList holds an answer against numbers.
func isList(t *testing.T, what string, l []api.Frac, e api.Errno, want []*big.Rat) {
	t.Helper()
	if !slices.Equal(l, fracs(want)) || e != api.OK {
		t.Errorf("%s: %s, %d; not %s", what, shown(l), e, shown(fracs(want)))
	}
}

// isNone asks for an error, beside which there is nothing.
func isNone(t *testing.T, what string, l []api.Frac, e, want api.Errno) {
	t.Helper()
	if e != want || len(l) > 0 {
		t.Errorf("%s: %s, %d; not the error %d", what, shown(l), e, want)
	}
}

// pipe is the bore of a text's pieces, each as area x length.
func pipe(near, far int, s string) api.Bore {
	b := api.Bore{Near: near, Far: far}
	for _, p := range strings.Fields(s) {
		area, text, _ := strings.Cut(p, "x")
		long, err := strconv.Atoi(text)
		if err != nil {
			panic("no piece: " + p)
		}
		b.Pieces = append(b.Pieces, api.Piece{Area: frac(rat(area)), Long: long})
	}
	return b
}

// noFractions are fractions that may not be.
func noFractions() []api.Frac {
	long := "\x01" + strings.Repeat("\x00", api.MaxBytes)
	return []api.Frac{
		{}, {Den: "\x02"}, {Neg: true, Den: "\x01"}, {Num: "\x01"}, {Num: "\x02", Den: "\x04"}, {Num: "\x00\x01", Den: "\x03"},
		{Num: "\x01", Den: "\x00\x03"}, {Num: "\x01", Den: "\x00"}, {Num: long, Den: "\x01"}, {Num: "\x01", Den: long},
	}
}

// noBores are bores that may not be: an end is none, a piece may not be, there are too many, or none, or they are too long.
func noBores() []api.Bore {
	list := []api.Bore{{}, pipe(api.Stopped, api.Open, ""), {Pieces: make([]api.Piece, 1<<16), Near: api.Open, Far: api.Open}}
	for _, end := range []int{0, 3, -1, 1 << 30, -1 << 31} {
		list = append(list, pipe(end, api.Open, "1x1"), pipe(api.Stopped, end, "1x1"))
	}
	for _, s := range []string{"0x1", "-1x1", "65536x1", "1/65536x1", "1x0", "1x-1", "1x33", "1x16 2x17", "1x1 0x1", "1x2147483647 1x1", strings.Repeat("1x1 ", 33)} {
		list = append(list, pipe(api.Stopped, api.Open, s))
	}
	for _, x := range noFractions() {
		list = append(list, api.Bore{Pieces: []api.Piece{{Area: x, Long: 1}}, Near: api.Open, Far: api.Open})
	}
	return list
}

// anyArea makes areas, some of them the greatest and the least.
func anyArea(r *rand.Rand, most int64) *big.Rat {
	switch r.Intn(12) {
	case 0:
		return whole(api.MaxArea)
	case 1:
		return big.NewRat(1, api.MaxArea)
	}
	return big.NewRat(1+r.Int63n(most), 1+r.Int63n(most))
}

// anyBore makes bores with some pieces of their neighbours' area.
func anyBore(r *rand.Rand) api.Bore {
	b := api.Bore{Near: 1 + r.Intn(2), Far: 1 + r.Intn(2)}
	longest, most := 1+r.Intn(9), []int64{3, 9, api.MaxArea}[r.Intn(3)]
	for left := 1 + r.Intn(api.MaxDegree); left > 0; {
		p := api.Piece{Area: frac(anyArea(r, most)), Long: 1 + r.Intn(min(left, longest))}
		if n := len(b.Pieces); n > 0 && r.Intn(4) == 0 {
			p.Area = b.Pieces[n-1].Area
		}
		b.Pieces = append(b.Pieces, p)
		left -= p.Long
	}
	return b
}

// bores are bores that may be, with the edges of the document among them, and so many any ones.
func bores(seed int64, more int) []api.Bore {
	var list []api.Bore
	for _, s := range []string{
		"1x1", "1x32", "3/2x2", "65535x1", "1x2 3/2x1", "1x1 3x1", "1x1 3x1 1x2", "1x16 3x16", "1/65535x1 65535x1 1/65535x1",
		strings.Repeat("1x1 ", 32), strings.Repeat("1x1 3x1 ", 16), strings.Repeat("65535x1 1/65535x1 ", 16), strings.Repeat("2x1 2x1 3x2 ", 8),
	} {
		for _, near := range []int{api.Stopped, api.Open} {
			list = append(list, pipe(near, api.Stopped, s), pipe(near, api.Open, s))
		}
	}
	r := rand.New(rand.NewSource(seed))
	for range more {
		list = append(list, anyBore(r))
	}
	return list
}

// isBore holds an answer against a bore.
func isBore(t *testing.T, what string, b api.Bore, e api.Errno, want api.Bore) {
	t.Helper()
	if !slices.Equal(b.Pieces, want.Pieces) || b.Near != want.Near || b.Far != want.Far || e != api.OK {
		t.Errorf("%s: %s, %d; not %s", what, name(b), e, name(want))
	}
}

// isNoBore asks for an error, beside which there is nothing.
func isNoBore(t *testing.T, what string, b api.Bore, e, want api.Errno) {
	t.Helper()
	if e != want || len(b.Pieces) > 0 || b.Near != 0 || b.Far != 0 {
		t.Errorf("%s: %s, %d; not the error %d", what, name(b), e, want)
	}
}

// anyNumber makes numbers above -1 and below 1, of at most so many bytes above and below.
func anyNumber(r *rand.Rand, bytes int) *big.Rat {
	top := new(big.Int).Lsh(big.NewInt(1), uint(8*bytes))
	den := new(big.Int).Rand(r, new(big.Int).Sub(top, big.NewInt(1)))
	num := new(big.Int).Rand(r, den.Add(den, big.NewInt(1)))
	if r.Intn(2) == 0 {
		num.Neg(num)
	}
	return new(big.Rat).SetFrac(num, den)
}

// anyNumbers makes so many of them.
func anyNumbers(r *rand.Rand, n, bytes int) []*big.Rat {
	l := make([]*big.Rat, n)
	for i := range l {
		l[i] = anyNumber(r, bytes)
	}
	return l
}

// ownShort is a bore's own answer as layer 10 tells it: at most so many numbers, up to the first one that is too long for a fraction.
func ownShort(b api.Bore, most int) []*big.Rat {
	n := sort.Search(most, func(n int) bool {
		_, e := wave.Answer(b, n+1)
		return e != api.OK
	})
	l, _ := wave.Answer(b, n)
	var numbers []*big.Rat
	for _, x := range l {
		numbers = append(numbers, value(x))
	}
	return numbers
}

package ends_test

import (
	"math/big"
	"math/rand"
	"slices"
	"strings"
	"testing"

	"diapason/api"
	"diapason/ends"
)

// rat is the number of a text.
func rat(s string) *big.Rat {
	r, ok := new(big.Rat).SetString(s)
	if !ok {
		panic("no number: " + s)
	}
	return r
}

// whole is a whole number.
func whole(n int64) *big.Rat { return big.NewRat(n, 1) }

// power2 is 2^n + more.
func power2(n uint, more int64) *big.Rat {
	p := new(big.Int).Lsh(big.NewInt(1), n)
	return new(big.Rat).SetInt(p.Add(p, big.NewInt(more)))
}

// greatest is the greatest number that a fraction may be.
func greatest() *big.Rat { return power2(8*api.MaxBytes, -1) }

func plus(x, y *big.Rat) *big.Rat { return new(big.Rat).Add(x, y) }

func minus(x, y *big.Rat) *big.Rat { return new(big.Rat).Sub(x, y) }

func times(x, y *big.Rat) *big.Rat { return new(big.Rat).Mul(x, y) }

func over(x, y *big.Rat) *big.Rat { return new(big.Rat).Quo(x, y) }

func negated(x *big.Rat) *big.Rat { return new(big.Rat).Neg(x) }

// inverse is 1 over the number.
func inverse(x *big.Rat) *big.Rat { return new(big.Rat).Inv(x) }

// frac is the fraction of a number of the library's, whatever its size.
func frac(r *big.Rat) api.Frac {
	num := new(big.Int).Abs(r.Num())
	return api.Frac{Neg: r.Sign() < 0, Num: string(num.Bytes()), Den: string(r.Denom().Bytes())}
}

// value is the number of a fraction that may be.
func value(x api.Frac) *big.Rat {
	num := new(big.Int).SetBytes([]byte(x.Num))
	if x.Neg {
		num.Neg(num)
	}
	return new(big.Rat).SetFrac(num, new(big.Int).SetBytes([]byte(x.Den)))
}

// isLong tells whether a number has more bytes than a fraction's may have.
func isLong(r *big.Rat) bool {
	return len(r.Num().Bytes()) > api.MaxBytes || len(r.Denom().Bytes()) > api.MaxBytes
}

// row is one of two numbers.
func row(flare, length *big.Rat) api.Row {
	return api.Row{Flare: frac(flare), Length: frac(length)}
}

// rows are those of a text: each as flare:length.
func rows(s string) []api.Row {
	var l []api.Row
	for _, r := range strings.Fields(s) {
		flare, length, _ := strings.Cut(r, ":")
		l = append(l, row(rat(flare), rat(length)))
	}
	return l
}

// turned are the rows with Flare and Length in one another's place.
func turned(l []api.Row) []api.Row {
	var other []api.Row
	for _, r := range l {
		other = append(other, api.Row{Flare: r.Length, Length: r.Flare})
	}
	return other
}

// lengthAt is what the chapter's words have at the flare, row by row from the first one on; nil, if it is beyond them.
func lengthAt(l []api.Row, flare *big.Rat) *big.Rat {
	for i, r := range l {
		b, q := value(r.Flare), value(r.Length)
		switch flare.Cmp(b) {
		case 0:
			return q
		case -1:
			if i == 0 {
				return nil
			}
			a, p := value(l[i-1].Flare), value(l[i-1].Length)
			return plus(p, over(times(minus(q, p), minus(flare, a)), minus(b, a)))
		}
	}
	return nil
}

// flareAt is likewise the flare at which the length is that.
func flareAt(l []api.Row, length *big.Rat) *big.Rat { return lengthAt(turned(l), length) }

// made is the table of rows that may be.
func made(t *testing.T, l []api.Row) *ends.Table {
	t.Helper()
	x, e := ends.New(l...)
	if x == nil || e != api.OK {
		t.Fatalf("New of %s: a table: %v, %d", name(l), x != nil, e)
	}
	return x
}

// cut is the beginning of a text.
func cut(s string) string {
	if len(s) > 160 {
		return s[:160] + ".."
	}
	return s
}

// told is a fraction as a text, whether it may be or not.
func told(x api.Frac) string {
	if strings.Trim(x.Den, "\x00") == "" {
		return "none"
	}
	return cut(value(x).RatString())
}

// name tells rows.
func name(l []api.Row) string {
	texts := make([]string, len(l))
	for i, r := range l {
		texts[i] = told(r.Flare) + ":" + told(r.Length)
	}
	return "(" + cut(strings.Join(texts, " ")) + ")"
}

// isFrac holds an answer against a number: ErrTable, if there is none; ErrLong, if that has too many bytes.
func isFrac(t *testing.T, what string, x api.Frac, e api.Errno, want *big.Rat) {
	t.Helper()
	switch {
	case want == nil:
		isError(t, what, x, e, api.ErrTable)
	case isLong(want):
		isError(t, what, x, e, api.ErrLong)
	case x != frac(want) || e != api.OK:
		t.Errorf("%s: %s, %d; not %s", what, told(x), e, cut(want.RatString()))
	}
}

// isError asks for an error, beside which there is the zero value.
func isError(t *testing.T, what string, x api.Frac, e, want api.Errno) {
	t.Helper()
	if e != want || x != (api.Frac{}) {
		t.Errorf("%s: %s, %d; not the error %d", what, told(x), e, want)
	}
}

// isNoTable asks of New for an error, beside which there is no table.
func isNoTable(t *testing.T, l []api.Row, want api.Errno) {
	t.Helper()
	if x, e := ends.New(l...); x != nil || e != want {
		t.Errorf("New of %s: a table: %v, %d; not the error %d", name(l), x != nil, e, want)
	}
}

// areRows holds the table's rows against others.
func areRows(t *testing.T, x *ends.Table, want []api.Row) {
	t.Helper()
	if l := x.Rows(); !slices.Equal(l, want) {
		t.Errorf("Rows: %s, not %s", name(l), name(want))
	}
}

// noFractions are fractions that may not be.
func noFractions() []api.Frac {
	long := "\x01" + strings.Repeat("\x00", api.MaxBytes)
	return []api.Frac{
		{}, {Den: "\x02"}, {Neg: true, Den: "\x01"}, {Num: "\x01"}, {Num: "\x02", Den: "\x04"}, {Num: "\x00\x01", Den: "\x03"},
		{Num: "\x01", Den: "\x00\x03"}, {Num: "\x01", Den: "\x00"}, {Num: long, Den: "\x01"}, {Num: "\x01", Den: long},
		{Num: "\x00", Den: "\x01"}, {Neg: true, Num: "\x03", Den: "\x03"}, {Neg: true},
	}
}

// noTables are tables that are none.
func noTables() []*ends.Table {
	none, _ := ends.New()
	return []*ends.Table{nil, none, {}, new(ends.Table)}
}

// anyNumber makes numbers of at most so many bytes above and below, some of them small, below 0 too.
func anyNumber(r *rand.Rand, bytes int) *big.Rat {
	if r.Intn(4) == 0 {
		return big.NewRat(r.Int63n(41)-20, 1+r.Int63n(6))
	}
	top := new(big.Int).Lsh(big.NewInt(1), uint(8*(1+r.Intn(bytes))))
	den := new(big.Int).Rand(r, new(big.Int).Sub(top, big.NewInt(1)))
	num := new(big.Int).Rand(r, top)
	if r.Intn(2) == 0 {
		num.Neg(num)
	}
	return new(big.Rat).SetFrac(num, den.Add(den, big.NewInt(1)))
}

// rising makes so many numbers, each above the one ahead.
func rising(r *rand.Rand, count, bytes int) []*big.Rat {
	var l []*big.Rat
	for len(l) < count {
		l = append(l, anyNumber(r, bytes))
		slices.SortFunc(l, (*big.Rat).Cmp)
		l = slices.CompactFunc(l, func(x, y *big.Rat) bool { return x.Cmp(y) == 0 })
	}
	return l
}

// anyTable makes so many rows.
func anyTable(r *rand.Rand, count, bytes int) []api.Row {
	var l []api.Row
	lengths := rising(r, count, bytes)
	for i, flare := range rising(r, count, bytes) {
		l = append(l, row(flare, lengths[i]))
	}
	return l
}

// tables are tables that may be, with the edges of the document among them.
func tables(seed int64) [][]api.Row {
	list := [][]api.Row{
		rows("0:0"), rows("0:1"), rows("-7/2:-1/3"), rows("0:1/2 1:1 3:2"), rows("0:0 1:1"), rows("-1:-5 0:0 1:5"), rows("-3:1/7 -2:1/5 5:6/5"), rows("0:0 1:1000000 1000000:1000001"),
		{row(greatest(), greatest())},
		{row(negated(greatest()), negated(greatest())), row(greatest(), greatest())},
		{row(minus(greatest(), whole(1)), whole(0)), row(greatest(), inverse(greatest()))},
		{row(whole(0), negated(inverse(greatest()))), row(inverse(greatest()), whole(0))},
		{row(inverse(greatest()), over(minus(greatest(), whole(2)), minus(greatest(), whole(1)))), row(inverse(minus(greatest(), whole(1))), over(minus(greatest(), whole(1)), greatest()))},
	}
	r := rand.New(rand.NewSource(seed))
	for count := 1; count <= api.MaxTable; count++ {
		list = append(list, anyTable(r, count, 2))
	}
	for range 60 {
		list = append(list, anyTable(r, 1+r.Intn(9), []int{1, 8, 40, 128, 256, api.MaxBytes}[r.Intn(6)]))
	}
	return list
}

// places are numbers in and about a rising list: each of them, some between each two, near to both ends, and beyond them.
func places(r *rand.Rand, l []*big.Rat) []*big.Rat {
	least := inverse(greatest())
	first, last := l[0], l[len(l)-1]
	list := []*big.Rat{minus(first, whole(1)), plus(last, whole(1)), minus(first, least), plus(last, least), negated(greatest()), greatest(), whole(0)}
	for i, x := range l {
		list = append(list, x)
		if i > 0 {
			ahead := l[i-1]
			// One that is short, wherever there is one, and others.
			list = append(list, over(plus(x, ahead), whole(2)), plus(ahead, times(minus(x, ahead), big.NewRat(1+r.Int63n(98), 99))), plus(ahead, least), minus(x, least))
		}
	}
	list = append(list, anyNumber(r, 2), anyNumber(r, 60))
	return slices.DeleteFunc(list, isLong)
}

// columns are the flares and the lengths of rows.
func columns(l []api.Row) (flares, lengths []*big.Rat) {
	for _, r := range l {
		flares = append(flares, value(r.Flare))
		lengths = append(lengths, value(r.Length))
	}
	return flares, lengths
}

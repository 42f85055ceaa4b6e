package exact

import (
	"math/big"
	"math/rand"
	"strings"
	"testing"
)

// firstOf are the first coefficients of p over q.
func firstOf(t *testing.T, p, q Poly, count int) []Number {
	t.Helper()
	var l []Number
	for i, c := range p.Series(q) {
		if i != len(l) {
			t.Fatalf("the power %d, not %d", i, len(l))
		}
		if l = append(l, c); len(l) == count {
			break
		}
	}
	return l
}

// rat is the library's number.
func (x Number) rat() *big.Rat {
	num, den := new(big.Int).SetBytes([]byte(x.num.Bytes())), new(big.Int).SetBytes([]byte(x.den.Bytes()))
	if x.neg {
		num.Neg(num)
	}
	return new(big.Rat).SetFrac(num, den)
}

// The series against Euclid's way by the library's numbers.
func TestSeries(t *testing.T) {
	r := rand.New(rand.NewSource(21))
	for i := range 400 {
		bytes, count := 1+i%9, 1+i%30
		p, q := anyPoly(r, 9, bytes), anyPoly(r, 9, bytes)
		if len(q) == 0 || q[0].Sign() == 0 {
			q = append(Poly{ours(big.NewRat(int64(1+r.Intn(9)), 7))}, q...)
		}
		var want []*big.Rat
		for k, c := range firstOf(t, p, q, count) {
			sum := p.at(k).rat()
			for j := 1; j <= min(k, len(q)-1); j++ {
				sum.Sub(sum, new(big.Rat).Mul(q[j].rat(), want[k-j]))
			}
			want = append(want, sum.Quo(sum, q[0].rat()))
			isNumber(t, "Series", c, want[k])
		}
	}
}

// Series that end, that go on for ever, that have nothing.
func TestSeriesOfTexts(t *testing.T) {
	for _, c := range []struct{ p, q, want string }{
		{"0", "1", "0 0 0"}, {"1", "1", "1 0 0 0"}, {"1 2 1", "1 1", "1 1 0 0 0"}, {"1", "1 -1", "1 1 1 1 1"}, {"1", "1 -1 -1", "1 1 2 3 5 8 13 21"},
		{"0 0 1", "2 1", "0 0 1/2 -1/4 1/8"}, {"0", "3 1/2 1/5", "0 0 0"}, {"1/2 1/3", "1/6", "3 2 0 0"}, {"1", "2/3 0 0 1/3", "3/2 0 0 -3/4 0 0 3/8"},
	} {
		want := strings.Fields(c.want)
		for i, x := range firstOf(t, polyText(c.p), polyText(c.q), len(want)) {
			r, _ := new(big.Rat).SetString(want[i])
			isNumber(t, c.p+" over "+c.q, x, r)
		}
	}
}

// A series may be left early, and gone through again.
func TestSeriesAgain(t *testing.T) {
	series := polyText("1").Series(polyText("1 -1/2"))
	for count := 1; count < 9; count++ {
		left := count
		for i, c := range series {
			isNumber(t, "Series", c, new(big.Rat).SetFrac64(1, 1<<i))
			if left--; left == 0 {
				break
			}
		}
	}
}

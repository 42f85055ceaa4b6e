package gauss_test

import (
	"math/big"
	"math/rand"
	"strings"
	"testing"

	"diapason/api"
	"diapason/gauss"
)

// pair is a complex number as the library has its parts.
type pair struct{ re, im *big.Rat }

// frac is the fraction of a number of the library's, whatever its size.
func frac(r *big.Rat) api.Frac {
	num := new(big.Int).Abs(r.Num())
	return api.Frac{Neg: r.Sign() < 0, Num: string(num.Bytes()), Den: string(r.Denom().Bytes())}
}

// number is the pair as the program has it.
func (z pair) number() api.Gauss { return api.Gauss{Re: frac(z.re), Im: frac(z.im)} }

// name tells the pair, without the form of the document.
func (z pair) name() string {
	s := "(" + z.re.RatString() + ", " + z.im.RatString() + ")"
	if len(s) > 200 {
		s = s[:200] + ".."
	}
	return s
}

func (z pair) isNought() bool { return z.re.Sign() == 0 && z.im.Sign() == 0 }

func (z pair) conj() pair { return pair{z.re, new(big.Rat).Neg(z.im)} }

func (z pair) add(w pair) pair { return pair{plus(z.re, w.re), plus(z.im, w.im)} }

func (z pair) sub(w pair) pair { return pair{minus(z.re, w.re), minus(z.im, w.im)} }

func (z pair) mul(w pair) pair {
	return pair{minus(times(z.re, w.re), times(z.im, w.im)), plus(times(z.re, w.im), times(z.im, w.re))}
}

func (z pair) norm() *big.Rat { return plus(times(z.re, z.re), times(z.im, z.im)) }

func (z pair) quo(w pair) pair {
	over := new(big.Rat).Inv(w.norm())
	return z.mul(w.conj()).mul(pair{over, new(big.Rat)})
}

func (z pair) power(n int) pair {
	if n < 0 {
		return one().quo(z.power(-n))
	}
	product := one()
	for range n {
		product = product.mul(z)
	}
	return product
}

func one() pair { return at("1", "0") }

func plus(x, y *big.Rat) *big.Rat { return new(big.Rat).Add(x, y) }

func minus(x, y *big.Rat) *big.Rat { return new(big.Rat).Sub(x, y) }

func times(x, y *big.Rat) *big.Rat { return new(big.Rat).Mul(x, y) }

// rat is the number of a text.
func rat(s string) *big.Rat {
	r, ok := new(big.Rat).SetString(s)
	if !ok {
		panic("no number: " + s)
	}
	return r
}

// at is the number with these parts.
func at(re, im string) pair { return pair{rat(re), rat(im)} }

// power2 is 2^n + more.
func power2(n uint, more int64) *big.Rat {
	p := new(big.Int).Lsh(big.NewInt(1), n)
	return new(big.Rat).SetInt(p.Add(p, big.NewInt(more)))
}

// isLong tells whether one of the numbers has more bytes than a fraction's may have.
func isLong(l ...*big.Rat) bool {
	for _, r := range l {
		if len(r.Num().Bytes()) > api.MaxBytes || len(r.Denom().Bytes()) > api.MaxBytes {
			return true
		}
	}
	return false
}

// isNumber holds an answer against a number: ErrLong, if that has too many bytes.
func isNumber(t *testing.T, what string, z api.Gauss, e api.Errno, want pair) {
	t.Helper()
	if isLong(want.re, want.im) {
		isError(t, what, z, e, api.ErrLong)
		return
	}
	if e != api.OK || z != want.number() {
		t.Errorf("%s = %v, %d; not %s", what, z, e, want.name())
	}
}

// isError holds an answer against an error, beside which there is the zero value.
func isError(t *testing.T, what string, z api.Gauss, e, want api.Errno) {
	t.Helper()
	if e != want || z != (api.Gauss{}) {
		t.Errorf("%s = %v, %d; not the error %d", what, z, e, want)
	}
}

// noNumbers are numbers that may not be: one of the parts may not, or both.
func noNumbers() []api.Gauss {
	long := "\x01" + strings.Repeat("\x00", api.MaxBytes)
	good := []api.Frac{frac(rat("0")), frac(rat("-3/2"))}
	list := []api.Gauss{{}}
	for _, wrong := range []api.Frac{
		{},
		{Den: "\x02"},
		{Neg: true, Den: "\x01"},
		{Num: "\x01"},
		{Num: "\x02", Den: "\x04"},
		{Num: "\x00\x02", Den: "\x03"},
		{Num: "\x02", Den: "\x00\x03"},
		{Num: "\x01", Den: "\x00"},
		{Num: long, Den: "\x01"},
		{Neg: true, Num: "\x01", Den: long},
	} {
		list = append(list, api.Gauss{Re: wrong, Im: wrong})
		for _, x := range good {
			list = append(list, api.Gauss{Re: wrong, Im: x}, api.Gauss{Re: x, Im: wrong})
		}
	}
	return list
}

// numbers are numbers that may be, with the edges of the document among them.
func numbers() []pair {
	greatest := power2(8*api.MaxBytes, -1)
	parts := []*big.Rat{
		rat("0"), rat("1"), rat("-1"), rat("2"), rat("-1/2"), rat("3/4"), rat("-22/7"), rat("18446744073709551616/3"),
		greatest, new(big.Rat).Neg(greatest), new(big.Rat).Inv(greatest), power2(8*api.MaxBytes-1, 0),
	}
	var list []pair
	for _, x := range parts {
		for _, y := range parts {
			list = append(list, pair{x, y})
		}
	}
	return list
}

// anyRat makes numbers with at most so many bytes above and below, some of them nought or whole.
func anyRat(r *rand.Rand, bytes int) *big.Rat {
	num, den := new(big.Int), big.NewInt(1)
	if r.Intn(8) > 0 {
		num.SetBytes(anyBytes(r, bytes))
	}
	if r.Intn(4) > 0 {
		den.SetBytes(append(anyBytes(r, bytes), 1))
	}
	if r.Intn(2) == 0 {
		num.Neg(num)
	}
	return new(big.Rat).SetFrac(num, den)
}

// anyBytes makes at least one byte, and one less than so many at most, so that one more may be put behind.
func anyBytes(r *rand.Rand, bytes int) []byte {
	s := make([]byte, 1+r.Intn(max(bytes-1, 1)))
	for i := range s {
		s[i] = byte(r.Intn(256))
	}
	return s
}

// anyPair makes numbers whose parts are such.
func anyPair(r *rand.Rand, bytes int) pair { return pair{anyRat(r, bytes), anyRat(r, bytes)} }

// sure is an answer that is none of an error, and may be.
func sure(t *testing.T, z api.Gauss, e api.Errno) api.Gauss {
	t.Helper()
	if e != api.OK || gauss.Check(z) != api.OK {
		t.Fatalf("%v, %d", z, e)
	}
	return z
}

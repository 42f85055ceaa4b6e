package ratio_test

import (
	"math/big"
	"math/rand"
	"strings"
	"testing"

	"diapason/api"
)

// frac is the fraction of a number of the library's, whatever its size.
func frac(r *big.Rat) api.Frac {
	num := new(big.Int).Abs(r.Num())
	return api.Frac{Neg: r.Sign() < 0, Num: string(num.Bytes()), Den: string(r.Denom().Bytes())}
}

// rat is the number of a text.
func rat(s string) *big.Rat {
	r, ok := new(big.Rat).SetString(s)
	if !ok {
		panic("no number: " + s)
	}
	return r
}

// of is the fraction of a text.
func of(s string) api.Frac { return frac(rat(s)) }

// whole is the whole number n.
func whole(n *big.Int) *big.Rat { return new(big.Rat).SetInt(n) }

// power2 is 2^n + more.
func power2(n uint, more int64) *big.Int {
	p := new(big.Int).Lsh(big.NewInt(1), n)
	return p.Add(p, big.NewInt(more))
}

// over is num / den.
func over(num, den *big.Int) *big.Rat { return new(big.Rat).SetFrac(num, den) }

// isLong tells whether a number has more bytes than a fraction's may have.
func isLong(r *big.Rat) bool {
	return len(r.Num().Bytes()) > api.MaxBytes || len(r.Denom().Bytes()) > api.MaxBytes
}

// isNumber holds an answer against a number: ErrLong, if that has too many bytes.
func isNumber(t *testing.T, what string, x api.Frac, e api.Errno, want *big.Rat) {
	t.Helper()
	if isLong(want) {
		isError(t, what, x, e, api.ErrLong)
		return
	}
	if e != api.OK || x != frac(want) {
		t.Errorf("%s = %v, %d; not %s", what, x, e, want.RatString())
	}
}

// isError holds an answer against an error, beside which there is the zero value.
func isError(t *testing.T, what string, x api.Frac, e, want api.Errno) {
	t.Helper()
	if e != want || x != (api.Frac{}) {
		t.Errorf("%s = %v, %d; not the error %d", what, x, e, want)
	}
}

// noFractions are fractions that may not be.
func noFractions() []api.Frac {
	long := "\x01" + strings.Repeat("\x00", api.MaxBytes)
	// 512 bytes each, with the common factor 2^64 + 13, and with 3.
	factor := power2(64, 13)
	great := new(big.Int).Mul(factor, power2(4031, -1))
	other := new(big.Int).Mul(factor, power2(4030, 3))
	three := new(big.Int).Mul(big.NewInt(3), power2(4094, 1))
	return []api.Frac{
		{},
		{Neg: true},
		{Den: "\x02"},
		{Den: "\x01\x00"},
		{Neg: true, Den: "\x01"},
		{Num: "\x01"},
		{Neg: true, Num: "\x01"},
		{Num: "\x02"},
		{Num: "\x00", Den: "\x01"},
		{Num: "\x01", Den: "\x00"},
		{Num: "\x00\x02", Den: "\x03"},
		{Num: "\x02", Den: "\x00\x03"},
		{Num: "\x00", Den: "\x00"},
		{Num: "\x02", Den: "\x04"},
		{Neg: true, Num: "\x02", Den: "\x04"},
		{Num: "\x06", Den: "\x03"},
		{Num: "\x05", Den: "\x05"},
		{Num: long, Den: "\x01"},
		{Num: "\x01", Den: long},
		{Neg: true, Num: long, Den: "\x01"},
		{Num: "\x00" + strings.Repeat("\x01", api.MaxBytes), Den: "\x01"},
		{Num: string(great.Bytes()), Den: string(other.Bytes())},
		{Num: string(three.Bytes()), Den: "\x03"},
		{Num: "\x03", Den: string(three.Bytes())},
	}
}

// fractions are fractions that may be, with the edges of the document among them.
func fractions() []*big.Rat {
	greatest := power2(8*api.MaxBytes, -1)
	list := []*big.Rat{
		whole(greatest), whole(new(big.Int).Neg(greatest)),
		over(big.NewInt(1), greatest), over(big.NewInt(-1), greatest),
		over(greatest, power2(8*api.MaxBytes, -2)), over(power2(8*api.MaxBytes, -2), greatest),
		over(greatest, power2(8*api.MaxBytes-1, 0)),
		whole(power2(8*api.MaxBytes-1, 0)),
		over(big.NewInt(1), power2(8*api.MaxBytes-1, 0)),
	}
	for _, s := range []string{"0", "1", "-1", "2", "-2", "1/2", "-1/2", "1/3", "2/3", "3/2", "-3/2", "5/6", "255", "256", "-256", "1/255", "1/256", "65535/65536", "9223372036854775807", "9223372036854775808", "-9223372036854775808", "-9223372036854775809", "18446744073709551615", "18446744073709551616", "-18446744073709551616", "18446744073709551617/18446744073709551616", "1/18446744073709551615", "1/18446744073709551616", "333/106", "355/113"} {
		list = append(list, rat(s))
	}
	return list
}

// anyInt makes numbers of 1 to so many bytes, some of them with bytes of 0 and 255 alone.
func anyInt(r *rand.Rand, bytes int) *big.Int {
	s := make([]byte, 1+r.Intn(bytes))
	plain := r.Intn(3) > 0
	for i := range s {
		s[i] = byte(r.Intn(256))
		if !plain {
			s[i] = byte(-r.Intn(2))
		}
	}
	n := new(big.Int).SetBytes(s)
	if r.Intn(2) == 0 {
		n.Neg(n)
	}
	return n
}

// anyRat makes numbers with at most so many bytes above and below.
func anyRat(r *rand.Rand, bytes int) *big.Rat {
	den := anyInt(r, bytes)
	if den.Sign() == 0 {
		den.SetInt64(1)
	}
	return over(anyInt(r, bytes), den)
}

package poly_test

import (
	"math/big"
	"math/rand"
	"testing"

	"diapason/api"
	"diapason/poly"
)

// isDivided asks for a quotient and its rest: ErrLong, if one of them is beyond what an answer may be.
func isDivided(t *testing.T, p, q terms) {
	t.Helper()
	quo, rest, e := poly.Divide(p.poly(), q.poly())
	what := "Divide of " + p.name() + " by " + q.name()
	if len(q) == 0 {
		isError(t, what, quo, e, api.ErrZero)
		isError(t, what, rest, e, api.ErrZero)
		return
	}
	wantQuo, wantRest := p.quoRem(q)
	if wantQuo.isLong() || wantRest.isLong() {
		isError(t, what, quo, e, api.ErrLong)
		isError(t, what, rest, e, api.ErrLong)
		return
	}
	isPoly(t, what+", the quotient", quo, e, wantQuo)
	isPoly(t, what+", the rest", rest, e, wantRest)
	if len(rest) >= len(q) {
		t.Errorf("%s: a rest of %d coefficients", what, len(rest))
	}
}

// P5.3: quotients and rests of each pair, ErrZero and ErrLong among them.
func TestDivide(t *testing.T) {
	for _, p := range polys() {
		for _, q := range polys() {
			isDivided(t, p, q)
		}
	}
	r := rand.New(rand.NewSource(6))
	for i := range 400 {
		bytes := []int{1, 2, 9, 40}[i%4]
		p, q := anyTerms(r, 33-bytes/2, bytes), anyTerms(r, 1+i%12, bytes)
		isDivided(t, p, q)
		isDivided(t, q, p)
	}
}

// P5.3: what was put together comes apart again, without a rest and with one.
func TestDivideBack(t *testing.T) {
	r := rand.New(rand.NewSource(7))
	for i := range 400 {
		p, q := anyTerms(r, 17, 1+i%12), anyTerms(r, 17, 1+i%12)
		if i%4 == 0 {
			p, q = anyWhole(r, 17, 250), anyWhole(r, 17, 250)
		}
		isDivided(t, p.mul(q), q)
		isDivided(t, p.mul(q).add(anyTerms(r, len(q), 1+i%12)), q)
	}
}

// P5.3, R7: coefficients of just MaxBytes bytes, and of one more: the first one of the quotient, a later one, one of the rest.
func TestDivideAtTheBound(t *testing.T) {
	top, one, half := greatest(), rat("1"), power2(2048, 0)
	small := new(big.Rat).Inv(top)
	for i, c := range []struct {
		p, q terms
		long bool
	}{
		{terms{one, top}, terms{one, top}, false},
		{terms{one, top}, terms{small}, true},
		{terms{one, top}, of("1 2"), false},
		{terms{one, power2(4095, 0)}, of("0 1/2"), true},
		{terms{power2(4095, 0), one}, of("1/2"), true},
		{terms{power2(4094, 0), one}, of("1/2"), false},
		{terms{one, top}, terms{one, small}, true},
		// x^2 over x - 2^2048 has the rest 2^4096, x^2 over 1 + x / 2^2047 the rest 2^4094.
		{power(2), terms{times(half, rat("-1")), one}, true},
		{power(2), terms{times(power2(2047, 0), rat("-1")), one}, false},
		{power(3), terms{times(half, rat("-1")), one}, true},
		{power(2), terms{one, new(big.Rat).Inv(power2(2047, 0))}, false},
		// The second coefficient of the quotient alone is too long.
		{terms{one, top, one}, terms{rat("-1"), one}, true},
		{terms{one, power2(4096, -3), one}, of("-1 1"), false},
		{terms{one, power2(4096, -2), one}, of("-1 1"), true},
		// The rest alone is.
		{terms{top, one}, of("-1 1"), true},
		{terms{power2(4096, -2), one}, of("-1 1"), false},
		{terms{one, top, one, one}, of("0 -1 1"), true},
		{terms{small, one}, of("2 1"), true},
	} {
		quo, rest := c.p.quoRem(c.q)
		if (quo.isLong() || rest.isLong()) != c.long {
			t.Fatalf("case %d is not what it says", i)
		}
		isDivided(t, c.p, c.q)
	}
}

// isGcd asks for the common factor of two.
func isGcd(t *testing.T, p, q, want terms) {
	t.Helper()
	g, e := poly.Gcd(p.poly(), q.poly())
	isPoly(t, "Gcd of "+p.name()+" and "+q.name(), g, e, want)
	g, e = poly.Gcd(q.poly(), p.poly())
	isPoly(t, "Gcd of "+q.name()+" and "+p.name(), g, e, want)
}

// P5.3: common factors of each pair.
func TestGcd(t *testing.T) {
	list := polys()
	for i, p := range list {
		for _, q := range list[:i+1] {
			isGcd(t, p, q, p.gcd(q))
		}
	}
	r := rand.New(rand.NewSource(8))
	for i := range 200 {
		bytes := []int{1, 2, 9}[i%3]
		p, q := anyTerms(r, 10, bytes), anyTerms(r, 10, bytes)
		isGcd(t, p, q, p.gcd(q))
		isGcd(t, p.mul(q), q, q.monic())
		common := anyTerms(r, 6, bytes)
		isGcd(t, p.mul(common), q.mul(common), p.gcd(q).mul(common).monic())
		isGcd(t, p, p.derive(), p.gcd(p.derive()))
		isGcd(t, p.mul(p).mul(q), p.mul(q).mul(q), p.mul(q).mul(p.gcd(q)).monic())
	}
}

// P5.3: factors of high degrees with great numbers.
func TestGcdOfGreatOnes(t *testing.T) {
	r := rand.New(rand.NewSource(9))
	for i := range 100 {
		common, p := anyWhole(r, 12, 160), anyWhole(r, 11, 160)
		if i%2 == 0 {
			common = common.scale(new(big.Rat).Inv(power2(1500, 7)))
		}
		// What goes into p and into this one goes into 1.
		q := p.mul(anyWhole(r, 11, 160)).add(of("1"))
		isGcd(t, p.mul(common), q.mul(common), common.monic())
	}
}

// P5.3, R7: the factor has numbers of just MaxBytes bytes, and of one more.
func TestGcdAtTheBound(t *testing.T) {
	top, one := greatest(), rat("1")
	small := new(big.Rat).Inv(top)
	far := terms{power2(2100, 1), new(big.Rat).Inv(power2(2050, 1))}
	for i, c := range []struct {
		p, q, want terms
		long       bool
	}{
		{terms{one, top}, terms{one, top}, terms{small, one}, false},
		{terms{top, small}, terms{top, small}, terms{times(top, top), one}, true},
		{terms{top, small}, nil, terms{times(top, top), one}, true},
		{terms{power2(4095, 0), rat("1/2")}, nil, terms{power2(4096, 0), one}, true},
		{terms{power2(4094, 0), rat("1/2")}, nil, terms{power2(4095, 0), one}, false},
		{terms{top, small}, terms{one, small}, of("1"), false},
		{of("1 1 1/2").scale(new(big.Rat).Inv(power2(4094, 0))), of("1 1 1/2").scale(power2(4095, 0)), of("2 2 1"), false},
		{terms{top, small}.mul(of("0 1")), of("0 0 1"), of("0 1"), false},
		{far.mul(of("1 0 1")), far.mul(of("2 0 1")), far.monic(), true},
	} {
		if c.want.isLong() != c.long {
			t.Fatalf("case %d is not what it says", i)
		}
		isGcd(t, c.p, c.q, c.want)
	}
}

// primesBelow are some of the greatest primes below 2^bits.
func primesBelow(bits uint, count int) []*big.Rat {
	var l []*big.Rat
	n := power2(bits, -1).Num()
	for ; len(l) < count; n.Sub(n, big.NewInt(1)) {
		if n.ProbablyPrime(0) {
			l = append(l, new(big.Rat).SetInt(n))
		}
	}
	return l
}

// P5.3: two that have a common factor, or one of a greater degree, or lose their degree, if multiples of a prime, of many primes, are left out of account.
func TestGcdByTheResiduesOfPrimes(t *testing.T) {
	less := func(x *big.Rat) terms { return terms{times(x, rat("-1")), rat("1")} }
	one, two, seven, root := of("1"), of("-2 1"), of("-7 1"), rat("-12345/11")
	for _, bits := range []uint{8, 16, 31, 32, 61, 62, 63, 64} {
		product := rat("1")
		for _, prime := range primesBelow(bits, 7) {
			product = times(product, prime)
			for _, far := range []*big.Rat{prime, times(prime, rat("-6")), product} {
				p, q := less(root), less(plus(root, far))
				isGcd(t, p, q, one)
				isGcd(t, p.mul(two), q.mul(two), two)
				isGcd(t, p.mul(less(far)), q.mul(less(far)), less(far))
				isGcd(t, p.mul(two).mul(less(root)), q.mul(two).mul(q), two)
				leading := terms{rat("5"), far}
				isGcd(t, leading.mul(two), two.mul(seven), two)
				isGcd(t, leading.mul(two), leading.mul(seven), leading.monic())
				below := less(new(big.Rat).Quo(root, far))
				isGcd(t, below.mul(two), below.mul(seven), below)
				isGcd(t, below.mul(two), two.mul(p), two)
				isGcd(t, two.scale(far), two.mul(two).scale(new(big.Rat).Inv(far)), two)
			}
		}
	}
}

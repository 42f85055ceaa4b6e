package ratio_test

import (
	"math/big"
	"math/rand"
	"testing"

	"diapason/api"
	"diapason/ratio"
)

// liesBetween tells whether z is above x and below y.
func liesBetween(x, z, y *big.Rat) bool { return x.Cmp(z) < 0 && z.Cmp(y) < 0 }

// firstFound goes through all fractions by their denominators, and of one denominator from 0 away.
func firstFound(x, y *big.Rat) *big.Rat {
	for den := int64(1); ; den++ {
		for num := int64(0); num <= 60*den; num++ {
			for _, z := range []*big.Rat{big.NewRat(num, den), big.NewRat(-num, den)} {
				if liesBetween(x, z, y) {
					return z
				}
			}
		}
	}
}

// P1.5, P1.8: the simplest one is the first that is found among all.
func TestBetweenSmallOnes(t *testing.T) {
	var list []*big.Rat
	for den := range int64(6) {
		for num := range int64(9) {
			list = append(list, big.NewRat(num-4, den+1))
		}
	}
	r := rand.New(rand.NewSource(6))
	for range 25 {
		list = append(list, big.NewRat(r.Int63n(400)-200, 1+r.Int63n(40)))
	}
	for _, x := range list {
		for _, y := range list {
			z, e := ratio.Between(frac(x), frac(y))
			what := "Between(" + x.RatString() + ", " + y.RatString() + ")"
			if x.Cmp(y) >= 0 {
				isError(t, what, z, e, api.ErrArg)
				continue
			}
			isNumber(t, what, z, e, firstFound(x, y))
		}
	}
}

// isSimplest tells whether no simpler fraction lies between: none of the two does from which z comes in the tree of all fractions.
func isSimplest(x, z, y *big.Rat) bool {
	if z.Sign() < 0 {
		return isSimplest(new(big.Rat).Neg(y), new(big.Rat).Neg(z), new(big.Rat).Neg(x))
	}
	if z.IsInt() {
		nearer := new(big.Rat).Sub(z, rat("1"))
		return z.Sign() == 0 || !liesBetween(x, nearer, y)
	}
	// The left one, a / b, is that with num b - a den = 1.
	num, den := z.Num(), z.Denom()
	b := new(big.Int).ModInverse(num, den)
	a := new(big.Int).Mul(num, b)
	a.Sub(a, big.NewInt(1)).Quo(a, den)
	left := over(a, b)
	right := over(new(big.Int).Sub(num, a), new(big.Int).Sub(den, b))
	return !liesBetween(x, left, y) && !liesBetween(x, right, y)
}

// fraction is the library's number of a fraction.
func fraction(x api.Frac) *big.Rat {
	num := new(big.Int).SetBytes([]byte(x.Num))
	if x.Neg {
		num.Neg(num)
	}
	return over(num, new(big.Int).SetBytes([]byte(x.Den)))
}

// P1.5, P1.8: of great ones, far from one another and near.
func TestBetweenGreatOnes(t *testing.T) {
	r := rand.New(rand.NewSource(7))
	for i := range 2000 {
		bytes := []int{3, 8, 17, 60, 250}[i%5]
		x, y := anyRat(r, bytes), anyRat(r, bytes)
		if i%2 == 0 {
			y = new(big.Rat).Add(x, over(anyInt(r, 3), power2(uint(8*bytes), 1)))
		}
		if x.Cmp(y) > 0 {
			x, y = y, x
		}
		if x.Cmp(y) == 0 || isLong(y) || isLong(x) {
			continue
		}
		z, e := ratio.Between(frac(x), frac(y))
		if e != api.OK || ratio.Check(z) != api.OK || !liesBetween(x, fraction(z), y) || !isSimplest(x, fraction(z), y) {
			t.Fatalf("Between(%s, %s) = %v, %d", x.RatString(), y.RatString(), z, e)
		}
	}
}

// P1.8: turned arguments have turned answers; a whole number that lies between is told.
func TestBetweenTurned(t *testing.T) {
	r := rand.New(rand.NewSource(8))
	for range 1000 {
		x, y := anyRat(r, 3), anyRat(r, 3)
		if x.Cmp(y) >= 0 {
			continue
		}
		z, e := ratio.Between(frac(x), frac(y))
		turned, f := ratio.Between(frac(new(big.Rat).Neg(y)), frac(new(big.Rat).Neg(x)))
		if e != api.OK {
			t.Fatalf("Between(%s, %s): %d", x.RatString(), y.RatString(), e)
		}
		isNumber(t, "turned", turned, f, new(big.Rat).Neg(fraction(z)))
		next := new(big.Rat).Add(floor(x), rat("1"))
		if hasWhole := next.Cmp(y) < 0; hasWhole != fraction(z).IsInt() {
			t.Errorf("Between(%s, %s) = %s", x.RatString(), y.RatString(), fraction(z).RatString())
		}
	}
}

// P1.5, R7: answers of just MaxBytes bytes, and of one more, above and below.
func TestBetweenAtTheBound(t *testing.T) {
	greatest, second, third := power2(4096, -1), power2(4096, -2), power2(4096, -3)
	one := big.NewInt(1)
	z, e := ratio.Between(frac(whole(third)), frac(whole(greatest)))
	isNumber(t, "between whole numbers", z, e, whole(second))
	z, e = ratio.Between(frac(whole(second)), frac(whole(greatest)))
	isError(t, "a half behind a whole number", z, e, api.ErrLong)
	z, e = ratio.Between(frac(over(one, greatest)), frac(over(one, third)))
	isNumber(t, "between parts of 1", z, e, over(one, second))
	z, e = ratio.Between(frac(over(one, greatest)), frac(over(one, second)))
	isError(t, "2 over a long number", z, e, api.ErrLong)
	z, e = ratio.Between(frac(over(big.NewInt(-1), greatest)), of("0"))
	isError(t, "-1 over a long number", z, e, api.ErrLong)
	z, e = ratio.Between(of("0"), frac(over(one, second)))
	isNumber(t, "above 0", z, e, over(one, greatest))
	z, e = ratio.Between(frac(over(second, greatest)), of("1"))
	isError(t, "below 1", z, e, api.ErrLong)
	z, e = ratio.Between(frac(over(big.NewInt(-1), greatest)), frac(whole(greatest)))
	isNumber(t, "about 0", z, e, rat("0"))
	z, e = ratio.Between(frac(whole(greatest)), frac(whole(greatest)))
	isError(t, "the same", z, e, api.ErrArg)
	z, e = ratio.Between(frac(whole(greatest)), frac(whole(second)))
	isError(t, "turned about", z, e, api.ErrArg)
}

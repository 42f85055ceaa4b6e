package residue

import (
	"math/big"
	"math/rand"
	"slices"
	"testing"
)

func TestPrimes(t *testing.T) {
	p := Greatest
	for n := uint64(1<<63 - 1); n > uint64(p); n -= 2 {
		if new(big.Int).SetUint64(n).ProbablyPrime(0) {
			t.Errorf("%d is greater than Greatest", n)
		}
	}
	for range 200 {
		if !new(big.Int).SetUint64(uint64(p)).ProbablyPrime(0) {
			t.Errorf("%d is no prime", p)
		}
		next := p.Next()
		for n := uint64(p) - 2; n > uint64(next); n -= 2 {
			if new(big.Int).SetUint64(n).ProbablyPrime(0) {
				t.Errorf("%d is left out", n)
			}
		}
		p = next
	}
}

// Numbers that some bases take for primes, and little ones.
func TestIsPrime(t *testing.T) {
	strong := []uint64{2047, 1373653, 25326001, 3215031751, 2152302898747, 3474749660383, 341550071728321, 3825123056546413051}
	for n := uint64(3); n < 4000; n += 2 {
		strong = append(strong, n)
	}
	for _, n := range strong {
		if Prime(n).isPrime() != new(big.Int).SetUint64(n).ProbablyPrime(0) {
			t.Errorf("%d", n)
		}
	}
}

func TestReckoning(t *testing.T) {
	r := rand.New(rand.NewSource(1))
	for _, p := range []Prime{3, 5, 97, 65537, Greatest.Next(), Greatest} {
		m := new(big.Int).SetUint64(uint64(p))
		ends := []uint64{0, 1, 2, uint64(p) / 2, uint64(p) - 2, uint64(p) - 1}
		for range 500 {
			x, y := r.Uint64()%uint64(p), r.Uint64()%uint64(p)
			if r.Intn(4) == 0 {
				x, y = ends[r.Intn(6)]%uint64(p), ends[r.Intn(6)]%uint64(p)
			}
			a, b := new(big.Int).SetUint64(x), new(big.Int).SetUint64(y)
			is := func(what string, got uint64, want *big.Int) {
				if want.Mod(want, m).Uint64() != got {
					t.Errorf("%s of %d and %d modulo %d = %d", what, x, y, p, got)
				}
			}
			is("Sub", p.Sub(x, y), new(big.Int).Sub(a, b))
			is("Mul", p.Mul(x, y), new(big.Int).Mul(a, b))
			is("Power", p.Power(x, y), new(big.Int).Exp(a, b, m))
			if x == 0 {
				is("Inverse", p.Inverse(x), new(big.Int))
			} else {
				is("Inverse", p.Inverse(x), new(big.Int).ModInverse(a, m))
			}
		}
	}
}

// product is that of two polynomials.
func product(p Prime, f, g []uint64) []uint64 {
	if len(f) == 0 || len(g) == 0 {
		return nil
	}
	made := make([]uint64, len(f)+len(g)-1)
	for i, x := range f {
		for j, y := range g {
			made[i+j] = p.Sub(made[i+j], p.Mul(uint64(p)-1, p.Mul(x, y)))
		}
	}
	return made
}

// anyPoly makes polynomials of at most so many coefficients.
func anyPoly(r *rand.Rand, p Prime, count int) []uint64 {
	f := make([]uint64, r.Intn(count+1))
	for i := range f {
		f[i] = r.Uint64() % uint64(p)
	}
	return trim(f)
}

func TestGcd(t *testing.T) {
	r := rand.New(rand.NewSource(2))
	for _, p := range []Prime{3, 7, 65537, Greatest} {
		for range 1000 {
			common, f, m := anyPoly(r, p, 6), anyPoly(r, p, 6), anyPoly(r, p, 6)
			// What goes into f and into f m + 1 goes into 1.
			g := product(p, f, m)
			if len(g) == 0 {
				g = []uint64{0}
			}
			g[0] = p.Sub(g[0], uint64(p)-1)
			f, g = product(p, f, common), product(p, trim(g), common)
			fWas, gWas := slices.Clone(f), slices.Clone(g)
			var want []uint64
			if len(common) > 0 {
				want = p.Scale(common, p.Inverse(common[len(common)-1]))
			}
			if got := p.Gcd(f, g); !slices.Equal(got, want) {
				t.Fatalf("modulo %d: Gcd(%v, %v) = %v, not %v", p, f, g, got, want)
			}
			if got := p.Gcd(g, f); !slices.Equal(got, want) {
				t.Fatalf("modulo %d: Gcd(%v, %v) = %v, not %v", p, g, f, got, want)
			}
			if !slices.Equal(f, fWas) || !slices.Equal(g, gWas) {
				t.Fatalf("%v, %v: changed", fWas, gWas)
			}
		}
	}
}

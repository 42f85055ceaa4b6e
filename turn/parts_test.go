package turn_test

import (
	"math"
	"math/big"
	"math/rand"
	"testing"

	"diapason/api"
	"diapason/turn"
)

const (
	most = 65536 // the finest parts of a turn
	near = 0x1p-44
)

// partsByFloats are p(3) to p(16), by the chapter's steps; each is rounded by the library's floats of 53 bits.
func partsByFloats() map[int]complex128 {
	float := func() *big.Float { return new(big.Float).SetPrec(53) }
	one, two := float().SetInt64(1), float().SetInt64(2)
	c, s := float(), float()
	list := map[int]complex128{}
	for i := 3; i <= 16; i++ {
		c = float().Sqrt(float().Quo(float().Add(one, c), two))
		if i == 3 {
			s = c
		} else {
			s = float().Quo(s, float().Mul(two, c))
		}
		re, _ := c.Float64()
		im, _ := s.Float64()
		list[i] = complex(re, im)
	}
	return list
}

// byTheWay is the point at k parts of a turn of 2^n, by the chapter's steps.
func byTheWay(parts map[int]complex128, k, n int) complex128 {
	whole := new(big.Int).Mul(big.NewInt(int64(k)), big.NewInt(1<<(16-n)))
	j := int(whole.Mod(whole, big.NewInt(most)).Int64())
	q, r := j/16384, j%16384
	mirrored := r > 8192
	if mirrored {
		r = 16384 - r
	}
	var factors []complex128
	for b := 15; b >= 0; b-- {
		if r&(1<<b) != 0 {
			factors = append(factors, parts[16-b])
		}
	}
	z := complex(1, 0)
	for i, f := range factors {
		if i == 0 {
			z = f
			continue
		}
		a, b, c, d := real(z), imag(z), real(f), imag(f)
		z = complex(float64(a*c)-float64(b*d), float64(a*d)+float64(b*c))
	}
	if mirrored {
		z = complex(imag(z), real(z))
	}
	for range q {
		z = complex(-imag(z), real(z))
	}
	return complex(real(z)+0, imag(z)+0)
}

// isAtParts holds Parts and Disc against a point.
func isAtParts(t *testing.T, k, n int, want complex128) {
	t.Helper()
	if z, e := turn.Parts(k, n); !sameBits(z, want) || e != api.OK {
		t.Errorf("Parts(%d, %d) = %x, %d; not %x", k, n, z, e, want)
	}
	radius := near
	if real(want) == 0 || imag(want) == 0 {
		radius = 0
	}
	if d, e := turn.Disc(k, n); !sameBits(d.C, want) || math.Float64bits(d.R) != math.Float64bits(radius) || e != api.OK {
		t.Errorf("Disc(%d, %d) = %x, %d; not %x, %x", k, n, d, e, want, radius)
	}
}

// P7.4: the parts themselves.
func TestEachPart(t *testing.T) {
	for i, p := range partsByFloats() {
		isAtParts(t, 1, i, p)
	}
}

// P7.4: each point of each n, by the bits.
func TestParts(t *testing.T) {
	parts := partsByFloats()
	for n := range api.MaxTurn + 1 {
		for k := range 1 << n {
			isAtParts(t, k, n, byTheWay(parts, k, n))
		}
	}
}

// P7.4: k counts modulo 2^n, from the least int to the greatest one.
func TestPartsModulo(t *testing.T) {
	parts := partsByFloats()
	r := rand.New(rand.NewSource(4))
	list := []int{math.MinInt, math.MinInt + 1, math.MaxInt, math.MaxInt - 1, -1, -2, -3, most - 1, most, most + 1, -most - 1, -most + 1, 1 << 30, -(1 << 30) + 5}
	for range 500 {
		list = append(list, int(r.Uint64())>>r.Intn(60))
	}
	for _, k := range list {
		for n := range api.MaxTurn + 1 {
			isAtParts(t, k, n, byTheWay(parts, k, n))
			rest := k % (1 << n)
			isAtParts(t, rest, n, byTheWay(parts, k, n))
		}
	}
}

// P7.4: n below 0, and above the limit.
func TestPartsOfWrongTurns(t *testing.T) {
	for _, c := range []struct {
		n    int
		want api.Errno
	}{{-1, api.ErrArg}, {-2, api.ErrArg}, {math.MinInt, api.ErrArg}, {17, api.ErrLong}, {64, api.ErrLong}, {math.MaxInt, api.ErrLong}} {
		for _, k := range []int{0, 1, -1, 3, math.MinInt, math.MaxInt} {
			if z, e := turn.Parts(k, c.n); !sameBits(z, 0) || e != c.want {
				t.Errorf("Parts(%d, %d) = %v, %d; not %d", k, c.n, z, e, c.want)
			}
			if d, e := turn.Disc(k, c.n); !sameBits(d.C, 0) || math.Float64bits(d.R) != 0 || e != c.want {
				t.Errorf("Disc(%d, %d) = %v, %d; not %d", k, c.n, d, e, c.want)
			}
		}
	}
}

// P7.6: quarters are told exactly, noughts without a sign, at each n that has them.
func TestQuarters(t *testing.T) {
	for q, want := range []complex128{1, 1i, -1, -1i} {
		for turns := -3; turns <= 3; turns++ {
			for n := range api.MaxTurn + 1 {
				at, unit := (4*turns+q)*(most/4), most>>n
				if at%unit == 0 {
					isAtParts(t, at/unit, n, want)
				}
			}
		}
	}
}

package exact

import (
	"math"
	"math/big"
	"math/rand"
	"testing"
)

// isFloat holds Float against the library's, which has a nought with a sign where ours has none.
func isFloat(t *testing.T, r *big.Rat) {
	t.Helper()
	want, _ := r.Float64()
	if got := ours(r).Float(); math.Float64bits(got) != math.Float64bits(want+0) {
		t.Errorf("Float of %s = %x, not %x", r.RatString(), got, want)
	}
}

func TestFloatAgainstTheLibrary(t *testing.T) {
	r := rand.New(rand.NewSource(2))
	for i := range 20000 {
		x := anyRat(r, []int{1, 8, 9, 130, 700}[i%5])
		isFloat(t, x)
		shift := new(big.Int).Lsh(big.NewInt(1), uint(r.Intn(1200)))
		isFloat(t, new(big.Rat).Mul(x, new(big.Rat).SetInt(shift)))
		isFloat(t, new(big.Rat).Quo(x, new(big.Rat).SetInt(shift)))
	}
	if v := (Number{}).Float(); v != 0 {
		t.Errorf("of no number: %v", v)
	}
}

// Halfway between two floats, and a very little beside it, over the whole range.
func TestFloatHalfway(t *testing.T) {
	little := new(big.Rat).SetFrac(big.NewInt(1), new(big.Int).Lsh(big.NewInt(1), 1300))
	r := rand.New(rand.NewSource(3))
	for i := range 3000 {
		v := math.Float64frombits(r.Uint64() >> 1)
		switch i % 5 {
		case 0:
			v = math.Float64frombits(uint64(i))
		case 1:
			v = math.Ldexp(1, r.Intn(2098)-1074)
		case 2:
			v = math.MaxFloat64
		}
		next := new(big.Rat)
		if math.IsNaN(v) || math.IsInf(v, 0) {
			continue
		}
		x := new(big.Rat).SetFloat64(v)
		if up := math.Nextafter(v, math.Inf(1)); math.IsInf(up, 0) {
			next.SetInt(new(big.Int).Lsh(big.NewInt(1), 1024))
		} else {
			next.SetFloat64(up)
		}
		half := new(big.Rat).Add(x, next)
		half.Quo(half, big.NewRat(2, 1))
		for _, y := range []*big.Rat{x, half, new(big.Rat).Add(half, little), new(big.Rat).Sub(half, little), next} {
			isFloat(t, y)
			isFloat(t, new(big.Rat).Neg(y))
		}
	}
}

func TestFromFloat(t *testing.T) {
	r := rand.New(rand.NewSource(4))
	for i := range 20000 {
		v := math.Float64frombits(r.Uint64())
		switch i % 4 {
		case 0:
			v = math.Float64frombits(r.Uint64() >> 12)
		case 1:
			v = float64(r.Intn(2000)-1000) / 64
		}
		if math.IsNaN(v) || math.IsInf(v, 0) {
			continue
		}
		x, ok := FromFloat(v)
		if !ok {
			t.Fatalf("FromFloat(%v)", v)
		}
		isNumber(t, "FromFloat", x, new(big.Rat).SetFloat64(v))
		if x.Float() != v {
			t.Fatalf("back from %v: %v", v, x.Float())
		}
	}
	for _, v := range []float64{math.Inf(1), math.Inf(-1), math.NaN(), -math.NaN()} {
		if x, ok := FromFloat(v); ok || !isNone(x) {
			t.Errorf("FromFloat(%v) = %v, %v", v, x, ok)
		}
	}
	x, ok := FromFloat(math.Copysign(0, -1))
	if !ok {
		t.Error("FromFloat of a nought with a sign")
	}
	isNumber(t, "a nought with a sign", x, new(big.Rat))
}

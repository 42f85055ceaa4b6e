package grain_test

import (
	"math"
	"math/big"
	"math/rand"
	"testing"

	"diapason/api"
	"diapason/grain"
	"diapason/ratio"
)

// isFloat asks for the floats of a number.
func isFloat(t *testing.T, r *big.Rat) {
	t.Helper()
	name := r.RatString()
	if len(name) > 100 {
		name = name[:100] + ".."
	}
	down, near, up, e := grain.Float(frac(r))
	want, _ := r.Float64()
	if math.IsInf(want, 0) {
		isFloatError(t, "Float("+name+")", down, near, up, e, api.ErrInf)
		return
	}
	wantDown, wantUp := around(r)
	if !same(down, wantDown) || !same(near, want+0) || !same(up, wantUp) || e != api.OK {
		t.Errorf("Float(%s) = %x, %x, %x, %d; not %x, %x, %x", name, down, near, up, e, wantDown, want, wantUp)
	}
}

// P3.1: numbers of all sizes, and of as many bytes as there may be.
func TestFloat(t *testing.T) {
	r := rand.New(rand.NewSource(1))
	for i := range 4000 {
		top := new(big.Int).Lsh(big.NewInt(1), uint([]int{8, 60, 70, 1000, 2100, 4096}[i%6]))
		num, den := new(big.Int).Rand(r, top), new(big.Int).Rand(r, top)
		if den.Sign() == 0 || i%7 == 0 {
			den.SetInt64(1)
		}
		x := new(big.Rat).SetFrac(num, den)
		isFloat(t, x)
		isFloat(t, turned(x))
	}
	most := minus(power2(8*api.MaxBytes), rat("1"))
	second := minus(most, rat("1"))
	for _, x := range []*big.Rat{most, new(big.Rat).Inv(most), new(big.Rat).Quo(most, second), new(big.Rat).Quo(second, most), power2(4095), power2(-4095)} {
		isFloat(t, x)
		isFloat(t, turned(x))
	}
	for _, x := range noFractions() {
		down, near, up, e := grain.Float(x)
		isFloatError(t, "Float of what may not be", down, near, up, e, api.ErrArg)
	}
}

// P3.1: floats, what lies halfway between two, and a very little beside each; the ends of the range among them.
func TestFloatHalfway(t *testing.T) {
	little, half := power2(-2000), rat("1/2")
	for _, v := range edges() {
		next := math.Nextafter(v, above)
		high := power2(1024)
		if isFinite(next) {
			high = worth(next)
		}
		middle := times(plus(worth(v), high), half)
		for _, x := range []*big.Rat{worth(v), middle, high} {
			isFloat(t, x)
			isFloat(t, plus(x, little))
			isFloat(t, minus(x, little))
		}
	}
}

// P3.1: the edges that the chapter names, by their floats.
func TestFloatEdges(t *testing.T) {
	tie := minus(power2(1024), power2(970))
	for _, x := range []*big.Rat{tie, plus(tie, rat("1")), power2(1024), power2(2000)} {
		for _, y := range []*big.Rat{x, turned(x)} {
			down, near, up, e := grain.Float(frac(y))
			isFloatError(t, "beyond the floats", down, near, up, e, api.ErrInf)
		}
	}
	for _, c := range []struct {
		x              *big.Rat
		down, near, up float64
	}{
		{minus(tie, rat("1")), greatest, greatest, above},
		{minus(rat("1"), tie), below, -greatest, -greatest},
		{plus(worth(greatest), power2(-2000)), greatest, greatest, above},
		{worth(-greatest), -greatest, -greatest, -greatest},
		{turned(power2(-1075)), -least, 0, 0},
		{turned(power2(-4000)), -least, 0, 0},
		{times(power2(-1075), rat("-5/4")), -least, -least, 0},
		{times(power2(-1075), rat("3")), least, 2 * least, 2 * least},
		{rat("-1/3"), math.Float64frombits(0xbfd5555555555556), -1.0 / 3, -1.0 / 3},
	} {
		down, near, up, e := grain.Float(frac(c.x))
		if !same(down, c.down) || !same(near, c.near) || !same(up, c.up) || e != api.OK {
			t.Errorf("Float = %x, %x, %x, %d; not %x, %x, %x", down, near, up, e, c.down, c.near, c.up)
		}
	}
}

// isWorth asks for what a float is worth, and goes back.
func isWorth(t *testing.T, v float64) {
	t.Helper()
	x, e := grain.Frac(v)
	if x != frac(worth(v)) || e != api.OK || ratio.Check(x) != api.OK {
		t.Errorf("Frac(%x) = %v, %d", v, x, e)
	}
	// P3.7: the float itself, three times; a nought has lost its sign.
	down, near, up, e := grain.Float(x)
	if !same(down, v+0) || !same(near, v+0) || !same(up, v+0) || e != api.OK {
		t.Errorf("Float of Frac(%x) = %x, %x, %x, %d", v, down, near, up, e)
	}
}

// P3.1, P3.7: what floats are worth, noughts with a sign too.
func TestFrac(t *testing.T) {
	for _, v := range edges() {
		isWorth(t, v)
	}
	r := rand.New(rand.NewSource(2))
	for range 4000 {
		isWorth(t, anyFloat(r))
	}
	for _, v := range notFinite() {
		isFracError(t, v)
	}
	if x, e := grain.Frac(minusNought); x != frac(rat("0")) || e != api.OK {
		t.Errorf("Frac(-0) = %v, %d", x, e)
	}
}

// place is where a float, an infinite one too, stands in the order of all floats; noughts stand at 0.
func place(v float64) int64 {
	size := int64(math.Float64bits(v) &^ (1 << 63))
	if math.Signbit(v) {
		return -size
	}
	return size
}

// isNext asks for both neighbours of v, which is a number.
func isNext(t *testing.T, v float64) {
	t.Helper()
	up, down := grain.Next(v, true), grain.Next(v, false)
	if wantUp := min(place(v)+1, place(above)); place(up) != wantUp || math.Signbit(up) != (place(v) < 0) {
		t.Errorf("Next(%x, true) = %x", v, up)
	}
	if wantDown := max(place(v)-1, place(below)); place(down) != wantDown || math.Signbit(down) != (place(v) <= 0) {
		t.Errorf("Next(%x, false) = %x", v, down)
	}
}

// P3.2: neighbours, at the edges and anywhere.
func TestNext(t *testing.T) {
	for _, v := range append(edges(), above, below) {
		isNext(t, v)
	}
	r := rand.New(rand.NewSource(3))
	for range 20000 {
		isNext(t, anyFloat(r))
	}
	for _, c := range []struct {
		v    float64
		up   bool
		want float64
	}{
		{minusNought, true, least}, {minusNought, false, -least}, {0, false, -least},
		{least, false, 0}, {-least, true, minusNought}, {least, true, 2 * least}, {-least, false, -2 * least},
		{-greatest, false, below}, {-greatest, true, -0x1.ffffffffffffep+1023}, {above, true, above}, {below, false, below}, {above, false, greatest}, {below, true, -greatest},
		{0x1p-1022, false, 0x0.fffffffffffffp-1022}, {2, false, 2 - unit}, {-1, true, unit/2 - 1}, {-1, false, -1 - unit},
	} {
		if w := grain.Next(c.v, c.up); !same(w, c.want) {
			t.Errorf("Next(%x, %v) = %x, not %x", c.v, c.up, w, c.want)
		}
	}
	for _, v := range notFinite() {
		if w, x := grain.Next(v, true), grain.Next(v, false); v != v && (w == w || x == x) {
			t.Errorf("Next of no number: %x, %x", w, x)
		}
	}
}

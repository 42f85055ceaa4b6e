package grain_test

import (
	"math"
	"math/big"
	"math/rand"
	"testing"

	"diapason/grain"
)

// operation is one of Add, Mul, Quo: what it is exactly, and Go's own.
type operation struct {
	name  string
	ours  func(a, b float64) (down, up float64)
	exact func(x, y *big.Rat) *big.Rat
	own   func(a, b float64) float64
}

func operations() []operation {
	return []operation{
		{"Add", grain.Add, plus, func(a, b float64) float64 { return a + b }},
		{"Mul", grain.Mul, times, func(a, b float64) float64 { return a * b }},
		{"Quo", grain.Quo, func(x, y *big.Rat) *big.Rat { return new(big.Rat).Quo(x, y) }, func(a, b float64) float64 { return a / b }},
	}
}

// isOperation asks for one result, and what the chapter says of all results.
func isOperation(t *testing.T, o operation, a, b float64) {
	t.Helper()
	down, up := o.ours(a, b)
	own := o.own(a, b)
	if !isFinite(a) || !isFinite(b) || o.name == "Quo" && b == 0 {
		areSides(t, o.name, a, b, down, up, own, own)
		return
	}
	wantDown, wantUp := around(o.exact(worth(a), worth(b)))
	areSides(t, o.name, a, b, down, up, wantDown, wantUp)
	// P3.7: the same or neighbours, and Go's own answer is one of them.
	if down > up || down != up && math.Nextafter(down, above) != up || isFinite(own) && own != down && own != up {
		t.Errorf("%s(%x, %x) = %x, %x; Go's own is %x", o.name, a, b, down, up, own)
	}
}

// isTwo asks for one sum and what it has lost.
func isTwo(t *testing.T, a, b float64) {
	t.Helper()
	sum, lost := grain.Two(a, b)
	want := 0.0
	if own := a + b; isFinite(own) {
		exact, isFloat := minus(plus(worth(a), worth(b)), worth(own)).Float64()
		if !isFloat {
			t.Fatalf("what %x + %x loses is no float", a, b)
		}
		want = exact + 0
	}
	areSides(t, "Two", a, b, sum, lost, a+b, want)
}

// isReckoned asks for all that is done with two floats.
func isReckoned(t *testing.T, a, b float64) {
	t.Helper()
	for _, o := range operations() {
		isOperation(t, o, a, b)
	}
	isTwo(t, a, b)
}

// P3.3, P3.4: all pairs of floats at the edges, and of what is not finite.
func TestEdges(t *testing.T) {
	list := append(edges(), notFinite()...)
	for _, a := range list {
		for _, b := range list {
			isReckoned(t, a, b)
		}
	}
}

// P3.3, P3.4: floats of all sizes, and pairs whose results lie at the ends of the range, or are floats but for little.
func TestAnyFloats(t *testing.T) {
	r := rand.New(rand.NewSource(4))
	for i := range 12000 {
		a, b := anyFloat(r), anyFloat(r)
		isReckoned(t, a, b)
		part := 1 + r.Float64()
		switch i % 6 {
		case 0:
			b = math.Ldexp(part, -1074-math.Ilogb(a)+r.Intn(60)-4)
		case 1:
			b = math.Ldexp(part, 1023-math.Ilogb(a)+r.Intn(3)-1)
		case 2:
			b = math.Ldexp(part, math.Ilogb(a)+1074-r.Intn(60)+4)
		case 3:
			b = math.Ldexp(part, math.Ilogb(a)-1023+r.Intn(3)-1)
		case 4:
			b = math.Ldexp(part-1.5, math.Ilogb(a)+r.Intn(120)-60)
		case 5:
			b = a * float64(r.Intn(64)-32) / 8
		}
		if isFinite(b) {
			isReckoned(t, a, b)
			isReckoned(t, b, a)
		}
	}
}

// P3.3: quotients that are floats, and those that miss one by as little as there is.
func TestQuotientsThatAreNearFloats(t *testing.T) {
	quo := operations()[2]
	r := rand.New(rand.NewSource(5))
	for range 4000 {
		q := math.Ldexp(float64(r.Intn(1<<26)-1<<25), r.Intn(1900)-1000)
		b := math.Ldexp(float64(r.Intn(1<<26)+1), r.Intn(100)-80)
		a := q * b
		if !isFinite(a) {
			continue
		}
		for _, c := range []float64{a, math.Nextafter(a, above), math.Nextafter(a, below)} {
			isOperation(t, quo, c, b)
			isOperation(t, quo, c, -b)
		}
	}
}

// P3.3, P3.4: the edges that the chapter names, by their floats.
func TestSides(t *testing.T) {
	for _, c := range []struct {
		name          string
		of            func(a, b float64) (float64, float64)
		a, b          float64
		first, second float64
	}{
		{"Add", grain.Add, -greatest, -greatest, below, -greatest},
		{"Add", grain.Add, greatest, least, greatest, above},
		{"Add", grain.Add, -greatest, -least, below, -greatest},
		{"Add", grain.Add, greatest, 0x1p970, greatest, above},
		{"Add", grain.Add, greatest, 0x1.fffffffffffffp+969, greatest, above},
		{"Add", grain.Add, greatest, -least, 0x1.ffffffffffffep+1023, greatest},
		{"Add", grain.Add, minusNought, minusNought, 0, 0},
		{"Add", grain.Add, -1, least, -1, unit/2 - 1},
		{"Add", grain.Add, above, below, none, none},
		{"Add", grain.Add, none, 1, none, none},
		{"Mul", grain.Mul, greatest, 2, greatest, above},
		{"Mul", grain.Mul, -greatest, 2, below, -greatest},
		{"Mul", grain.Mul, least, least, 0, least},
		{"Mul", grain.Mul, least, -least, -least, 0},
		{"Mul", grain.Mul, 0, -3, 0, 0},
		{"Mul", grain.Mul, minusNought, above, none, none},
		{"Mul", grain.Mul, -2, above, below, below},
		{"Mul", grain.Mul, 0x1.0000000000001p-500, 0x1.0000000000001p-500, 0x1.0000000000002p-1000, 0x1.0000000000003p-1000},
		{"Quo", grain.Quo, greatest, 0.5, greatest, above},
		{"Quo", grain.Quo, -greatest, 0.5, below, -greatest},
		{"Quo", grain.Quo, least, 2, 0, least},
		{"Quo", grain.Quo, least, -greatest, -least, 0},
		{"Quo", grain.Quo, minusNought, 3, 0, 0},
		{"Quo", grain.Quo, 1, minusNought, below, below},
		{"Quo", grain.Quo, minusNought, 0, none, none},
		{"Quo", grain.Quo, -1, above, minusNought, minusNought},
		{"Quo", grain.Quo, 0, below, minusNought, minusNought},
		{"Quo", grain.Quo, above, 0, above, above},
		{"Two", grain.Two, minusNought, minusNought, minusNought, 0},
		{"Two", grain.Two, unit / 4, -1, -1, unit / 4},
		{"Two", grain.Two, greatest, -least, greatest, -least},
		{"Two", grain.Two, -least, greatest, greatest, -least},
		{"Two", grain.Two, 1, 1, 2, 0},
		{"Two", grain.Two, above, 1, above, 0},
		{"Two", grain.Two, above, below, none, 0},
		{"Two", grain.Two, 1, none, none, 0},
	} {
		first, second := c.of(c.a, c.b)
		areSides(t, c.name, c.a, c.b, first, second, c.first, c.second)
	}
}

package nat

import (
	"math"
	"math/big"
	"math/rand"
	"slices"
	"strings"
	"testing"
)

// toBig is the number as the library has it.
func toBig(x Nat) *big.Int {
	n := new(big.Int)
	for i := len(x) - 1; i >= 0; i-- {
		n.Lsh(n, 64)
		n.Or(n, new(big.Int).SetUint64(x[i]))
	}
	return n
}

// same tells whether x is n, and has no noughts at its end.
func same(x Nat, n *big.Int) bool {
	return toBig(x).Cmp(n) == 0 && (len(x) == 0 || x[len(x)-1] != 0)
}

// anyNat makes numbers of up to so many words, many of them with words at the ends of their range.
func anyNat(r *rand.Rand, words int) Nat {
	edges := []uint64{0, 1, 2, 1<<63 - 1, 1 << 63, 1<<63 + 1, 1<<64 - 2, 1<<64 - 1}
	x := make(Nat, r.Intn(words+1))
	plain := r.Intn(3)
	for i := range x {
		x[i] = r.Uint64() >> r.Intn(64)
		if plain == 0 || plain == 1 && r.Intn(2) == 0 {
			x[i] = edges[r.Intn(len(edges))]
		}
	}
	return x.trim()
}

func TestAgainstTheLibrary(t *testing.T) {
	r := rand.New(rand.NewSource(1))
	for range 60000 {
		x, y := anyNat(r, 8), anyNat(r, 6)
		if r.Intn(4) == 0 {
			x = x.Mul(y).Add(anyNat(r, 2))
		}
		a, b := toBig(x), toBig(y)
		xWas, yWas := slices.Clone(x), slices.Clone(y)
		checkPair(t, x, y, a, b)
		if !slices.Equal(x, xWas) || !slices.Equal(y, yWas) {
			t.Fatalf("%v, %v: changed", xWas, yWas)
		}
	}
}

// checkPair asks for all that two numbers are asked for.
func checkPair(t *testing.T, x, y Nat, a, b *big.Int) {
	t.Helper()
	if !same(x.Add(y), new(big.Int).Add(a, b)) {
		t.Fatalf("%v + %v = %v", a, b, x.Add(y))
	}
	if !same(x.Mul(y), new(big.Int).Mul(a, b)) {
		t.Fatalf("%v * %v = %v", a, b, x.Mul(y))
	}
	if x.Cmp(y) != a.Cmp(b) {
		t.Fatalf("Cmp(%v, %v) = %d", a, b, x.Cmp(y))
	}
	less := new(big.Int).Sub(a, b)
	if less.Sign() < 0 {
		less.SetInt64(0)
	}
	if !same(x.Sub(y), less) {
		t.Fatalf("%v - %v = %v", a, b, x.Sub(y))
	}
	if !same(x.Gcd(y), new(big.Int).GCD(nil, nil, a, b)) {
		t.Fatalf("Gcd(%v, %v) = %v", a, b, x.Gcd(y))
	}
	lcm := new(big.Int).Mul(a, b)
	if lcm.Sign() != 0 {
		lcm.Quo(lcm, new(big.Int).GCD(nil, nil, a, b))
	}
	if !same(x.Lcm(y), lcm) {
		t.Fatalf("Lcm(%v, %v) = %v", a, b, x.Lcm(y))
	}
	q, rest := x.QuoRem(y)
	wantQ, wantRest := new(big.Int), a
	if b.Sign() != 0 {
		wantQ, wantRest = new(big.Int).QuoRem(a, b, new(big.Int))
	}
	if !same(q, wantQ) || !same(rest, wantRest) || !same(x.Quo(y), wantQ) {
		t.Fatalf("%v over %v = %v, %v", a, b, q, rest)
	}
}

func TestOne(t *testing.T) {
	r := rand.New(rand.NewSource(2))
	for range 5000 {
		x := anyNat(r, 12)
		a := toBig(x)
		if x.Text() != a.String() {
			t.Fatalf("Text = %s, not %s", x.Text(), a)
		}
		if y, ok := Parse(a.String()); !ok || !same(y, a) {
			t.Fatalf("Parse(%s) = %v, %v", a, y, ok)
		}
		if x.Bytes() != string(a.Bytes()) || x.Size() != len(a.Bytes()) {
			t.Fatalf("Bytes of %s = %q, %d", a, x.Bytes(), x.Size())
		}
		if y := FromBytes("\x00\x00" + x.Bytes()); !same(y, a) {
			t.Fatalf("FromBytes of %s = %v", a, y)
		}
		if n, ok := x.Word(); ok != a.IsUint64() || ok && n != a.Uint64() || !ok && n != 0 {
			t.Fatalf("Word of %s = %d, %v", a, n, ok)
		}
		if x.Bits() != a.BitLen() {
			t.Fatalf("Bits of %s = %d", a, x.Bits())
		}
		if x.IsOne() != (a.Cmp(big.NewInt(1)) == 0) {
			t.Fatalf("IsOne of %s = %v", a, x.IsOne())
		}
	}
	for range 5000 {
		x, w := anyNat(r, 9), r.Uint64()>>r.Intn(64)
		var want uint64
		if w > 0 {
			want = new(big.Int).Mod(toBig(x), new(big.Int).SetUint64(w)).Uint64()
		}
		if x.RestWord(w) != want {
			t.Fatalf("RestWord of %v over %d = %d", x, w, x.RestWord(w))
		}
	}
	if len(Of(0)) != 0 || !slices.Equal(Of(7), Nat{7}) {
		t.Error("Of")
	}
}

func TestNoTexts(t *testing.T) {
	for _, s := range []string{"", "00", "01", "+1", "-1", "1 ", " 1", "1_0", "a", "1a", "1/2", "1.", "\u0661", strings.Repeat("1", 40) + "x" + strings.Repeat("1", 40)} {
		if x, ok := Parse(s); ok || x != nil {
			t.Errorf("Parse(%q) = %v, %v", s, x, ok)
		}
	}
	for n := range 100 {
		s := "1" + strings.Repeat("0", n)
		if x, ok := Parse(s); !ok || x.Text() != s {
			t.Errorf("Parse(%q) = %v, %v", s, x, ok)
		}
	}
}

// Numbers as long as the longest texts, and those on which Euclid's way has the most steps.
func TestGcdOfLongOnes(t *testing.T) {
	r := rand.New(rand.NewSource(3))
	for range 20 {
		x, y, z := anyNat(r, 300), anyNat(r, 300), anyNat(r, 100)
		x, y = x.Mul(z), y.Mul(z)
		if !same(x.Gcd(y), new(big.Int).GCD(nil, nil, toBig(x), toBig(y))) {
			t.Fatalf("Gcd(%v, %v)", toBig(x), toBig(y))
		}
	}
	a, b := Of(1), Of(1)
	for range 4000 {
		a, b = a.Add(b), a
		if !a.Gcd(b).IsOne() {
			t.Fatalf("Gcd(%v, %v)", toBig(a), toBig(b))
		}
	}
}

// Words at which a guessed digit is still too great when it has been held against two words.
func TestDigitsThatGoBack(t *testing.T) {
	top := uint64(1) << 63
	for _, c := range [][2]Nat{
		{{0, 0, top, top - 1}, {1, 0, top}},
		{{0, 1<<64 - 2, top}, {1<<64 - 1, top}},
		{{3, 0, top}, {1, 0, 1 << 61}},
		{{0, 1<<64 - 1, 1<<64 - 1, 1<<64 - 2}, {1<<64 - 1, 1<<64 - 1, 1<<64 - 1}},
	} {
		checkPair(t, c[0], c[1], toBig(c[0]), toBig(c[1]))
	}
}

func TestShifts(t *testing.T) {
	r := rand.New(rand.NewSource(4))
	for range 300 {
		x := anyNat(r, 6)
		was := slices.Clone(x)
		for _, n := range []int{0, 1, 2, 31, 63, 64, 65, 127, 128, 129, 383, 384, 1074, r.Intn(5000)} {
			up, down := x.Shl(n), x.Shr(n)
			if !same(up, new(big.Int).Lsh(toBig(x), uint(n))) {
				t.Fatalf("Shl(%v, %d) = %v", toBig(x), n, up)
			}
			if !same(down, new(big.Int).Rsh(toBig(x), uint(n))) {
				t.Fatalf("Shr(%v, %d) = %v", toBig(x), n, down)
			}
			if twos := up.Twos(); twos != int(toBig(up).TrailingZeroBits()) {
				t.Fatalf("Twos of %v = %d", toBig(up), twos)
			}
		}
		for _, n := range []int{-1, -64, math.MinInt} {
			if !same(x.Shl(n), toBig(x)) || !same(x.Shr(n), toBig(x)) {
				t.Fatalf("%v by %d: %v, %v", toBig(x), n, x.Shl(n), x.Shr(n))
			}
		}
		if !slices.Equal(x, was) {
			t.Fatalf("%v: changed", was)
		}
	}
}

func TestSum(t *testing.T) {
	r := rand.New(rand.NewSource(6))
	for range 3000 {
		x, y := anyNat(r, 4), anyNat(r, 4)
		if r.Intn(4) == 0 {
			y = x
		}
		xNeg, yNeg := len(x) > 0 && r.Intn(2) == 0, len(y) > 0 && r.Intn(2) == 0
		a, b := toBig(x), toBig(y)
		if xNeg {
			a.Neg(a)
		}
		if yNeg {
			b.Neg(b)
		}
		neg, sum := Sum(xNeg, x, yNeg, y)
		want := a.Add(a, b)
		if neg != (want.Sign() < 0) || !same(sum, want.Abs(want)) {
			t.Fatalf("Sum(%v, %v, %v, %v) = %v, %v", xNeg, x, yNeg, y, neg, sum)
		}
	}
}

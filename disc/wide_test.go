package disc

import (
	"math/big"
	"math/bits"
	"math/rand"
	"testing"
)

// whole is the number as the library has it.
func (w wide) whole() *big.Int {
	n := new(big.Int).SetUint64(w.high)
	return n.Add(n.Lsh(n, 64), new(big.Int).SetUint64(w.low))
}

// What a length is made of, at squares and right beside them: where a root by floats is off.
func TestWideNumbers(t *testing.T) {
	r := rand.New(rand.NewSource(13))
	for i := range 30000 {
		n := r.Uint64() >> (10 + r.Intn(50))
		m := r.Uint64() >> (11 + r.Intn(50))
		w, v := square(n), square(m)
		switch i % 3 {
		case 0:
			w = w.plus(wide{0, 2 * n})
		case 1:
			low, lent := bits.Sub64(w.low, min(n, 1), 0)
			w = wide{w.high - lent, low}
		}
		if root := new(big.Int).Sqrt(w.whole()); !root.IsUint64() || w.root() != root.Uint64() {
			t.Errorf("the root of %v is %d, not %v", w, w.root(), root)
		}
		if sum := new(big.Int).Add(w.whole(), v.whole()); w.plus(v).whole().Cmp(sum) != 0 {
			t.Errorf("%v and %v are %v", w, v, w.plus(v))
		}
		if w.isAbove(v) != (w.whole().Cmp(v.whole()) > 0) {
			t.Errorf("is %v above %v?", w, v)
		}
		far := r.Intn(200)
		if down := new(big.Int).Rsh(w.whole(), uint(far)); w.over(far).whole().Cmp(down) != 0 {
			t.Errorf("%v over 2^%d is %v", w, far, w.over(far))
		}
	}
}

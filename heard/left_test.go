package heard

import (
	"math/big"
	"math/rand"
	"slices"
	"testing"

	"diapason/api"
	"diapason/exact"
	"diapason/nat"
	"diapason/residue"
)

// These numbers may have any length, as those between may; fractions that are handed in can't.

// numbers are the library's ones.
func numbers(l ...*big.Rat) []exact.Number {
	var made []exact.Number
	for _, x := range l {
		num, den := nat.FromBytes(string(new(big.Int).Abs(x.Num()).Bytes())), nat.FromBytes(string(x.Denom().Bytes()))
		made = append(made, exact.Of(x.Sign() < 0, num, den))
	}
	return made
}

// answerOf is the answer of borders with these reflections, one behind the other, the last one being that of the far end, if it is 1 or -1.
func answerOf(k []exact.Number, n int) []exact.Number {
	back := make([]exact.Number, len(k)+1)
	for i := range back {
		back[i] = whole(0)
	}
	var came []exact.Number
	on := whole(1)
	for range n {
		// What goes on from a border is at the next one a tick later; what goes back from there is here again when the next push would be.
		for i, x := range k {
			thrown := on.Sub(back[i+1]).Mul(x)
			back[i], on = back[i+1].Add(thrown), on.Add(thrown)
		}
		came = append(came, back[0])
		on = whole(0)
	}
	return came
}

// reflections are numbers above -1 and below 1 of at most so many bits.
func reflections(r *rand.Rand, n int, bits uint) []exact.Number {
	top := new(big.Int).Lsh(big.NewInt(1), bits)
	var l []*big.Rat
	for range n {
		num, den := new(big.Int).Rand(r, top), new(big.Int).Add(top, new(big.Int).Rand(r, top))
		if r.Intn(2) == 0 {
			num.Neg(num)
		}
		l = append(l, new(big.Rat).SetFrac(num, den))
	}
	return numbers(l...)
}

// With reflections of any length: what is foreseen, where it is sure, and what is told.
func TestPeeled(t *testing.T) {
	r := rand.New(rand.NewSource(1))
	count := map[api.Errno]int{}
	for range 200 {
		bits := []uint{4, 60, 500, 3000, 4200}[r.Intn(5)]
		n := 1 + r.Intn(3)
		k := reflections(r, n, bits)
		far := 1 - 2*r.Intn(2)
		// The chain's answer; that of one of whose reflections one is 1 or -1; one that has another number.
		chain := append(slices.Clone(k), whole(far))
		want := api.OK
		if bits > 4000 {
			want = api.ErrLong
		}
		kind := r.Intn(3)
		if kind == 1 {
			chain[r.Intn(n)] = whole(1 - 2*r.Intn(2))
			want = api.ErrHeard
		}
		l := answerOf(chain, n+1+r.Intn(3))
		if kind == 2 {
			i := n + r.Intn(len(l)-n)
			l[i] = l[i].Add(numbers(big.NewRat(1, 1<<60))[0])
			want = api.ErrHeard
		}
		got, e := peeled(l, n, far)
		if e != want || (e == api.OK) != (len(got) == n) {
			t.Errorf("%d reflections of %d bits, kind %d: %d, not %d", n, bits, kind, e, want)
		}
		for i := range got {
			if x, _ := k[i].Frac(); x != got[i] {
				t.Errorf("%d of %d bits: another reflection", i, bits)
			}
		}
		if heard, sure := laid(l).foreseen(n, far); sure && heard != (want != api.ErrHeard) {
			t.Errorf("%d reflections of %d bits, kind %d: foreseen %t", n, bits, kind, heard)
		}
		count[e]++
	}
	if count[api.OK] < 30 || count[api.ErrHeard] < 60 || count[api.ErrLong] < 7 {
		t.Errorf("there are %v", count)
	}
}

// 1 or -1, just so, or by as little as one part of 2^5000, behind a reflection that is too long.
func TestPeeledAtOne(t *testing.T) {
	r := rand.New(rand.NewSource(2))
	tiny := new(big.Rat).SetFrac(big.NewInt(1), new(big.Int).Lsh(big.NewInt(1), 5000))
	for _, sign := range []int{1, -1} {
		one := big.NewRat(int64(sign), 1)
		less, more := new(big.Rat), new(big.Rat)
		less.Mul(one, less.Sub(big.NewRat(1, 1), tiny))
		more.Mul(one, more.Add(big.NewRat(1, 1), tiny))
		for i := range 4 {
			k := append(reflections(r, 2, 4200), reflections(r, i, 30)...)
			for _, c := range []struct {
				last *big.Rat
				want api.Errno
			}{{one, api.ErrHeard}, {less, api.ErrLong}, {more, api.ErrHeard}} {
				n := len(k) + 1
				l := answerOf(append(slices.Clone(k), numbers(c.last)...), n)
				if list, e := peeled(l, n, 1); e != c.want || len(list) > 0 {
					t.Errorf("the last one of %d is %d: %d, not %d", n, sign, e, c.want)
				}
				// The same ahead of it: it is told by the first one that is too long.
				if _, e := peeled(l[:n-1], n-1, 1); e != api.ErrLong {
					t.Errorf("%d without the last one: %d", n, e)
				}
			}
		}
	}
}

// Residues that are 1 or -1, or noughts, are not what the numbers are.
func TestPeeledByAPrime(t *testing.T) {
	p := new(big.Rat).SetInt(new(big.Int).SetUint64(uint64(residue.Greatest)))
	one := big.NewRat(1, 1)
	same := new(big.Rat).Quo(one, new(big.Rat).Add(p, one))
	long := new(big.Rat).SetFrac(big.NewInt(1), new(big.Int).Lsh(big.NewInt(1), 5000))
	for place, k := range [][]*big.Rat{
		{same}, {new(big.Rat).Neg(same)}, {same, same, same}, {long, same}, {same, long}, {long, same, big.NewRat(1, 3)},
		{new(big.Rat).Quo(one, p)}, {big.NewRat(1, 3), new(big.Rat).Quo(one, p), same},
	} {
		for _, far := range []int{1, -1} {
			chain := append(numbers(k...), whole(far))
			want := api.OK
			if slices.Contains(k, long) {
				want = api.ErrLong
			}
			for more := range 4 {
				l := answerOf(chain, len(k)+more)
				if _, e := peeled(l, len(k), far); e != want {
					t.Errorf("chain %d and %d: %d, not %d", place, more, e, want)
				}
				if more > 0 {
					l[len(l)-1] = l[len(l)-1].Add(numbers(p)[0])
					if _, e := peeled(l, len(k), far); e != api.ErrHeard {
						t.Errorf("chain %d and %d, the last one off: %d", place, more, e)
					}
				}
			}
		}
	}
}

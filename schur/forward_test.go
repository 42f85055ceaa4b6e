package schur_test

import (
	"math/big"
	"math/rand"
	"slices"
	"testing"

	"diapason/api"
	"diapason/schur"
)

// isForward asks for both polynomials: ErrLong, if one is beyond what an answer may be.
func isForward(t *testing.T, c row) {
	t.Helper()
	wantUnder, wantOver := c.polys()
	under, over, e := schur.Forward(c.chain())
	if isLong(wantUnder...) || isLong(wantOver...) {
		if e != api.ErrLong || len(under) > 0 || len(over) > 0 {
			t.Errorf("Forward of %s: %s, %s, %d; not ErrLong", c.name(), shown(under), shown(over), e)
		}
		return
	}
	if e != api.OK {
		t.Errorf("Forward of %s: the error %d", c.name(), e)
	}
	isPoly(t, "under of "+c.name(), under, wantUnder)
	isPoly(t, "over of "+c.name(), over, wantOver)
}

// P8.1: chains that may be, and those that may not.
func TestCheck(t *testing.T) {
	for _, c := range rows() {
		if e := schur.Check(c.chain()); e != api.OK {
			t.Errorf("Check of %s: %d", c.name(), e)
		}
	}
	r := rand.New(rand.NewSource(1))
	for i := range 300 {
		c := anyRow(r, 31, []int{1, 2, 9, 512}[i%4])
		if e := schur.Check(c.chain()); e != api.OK {
			t.Errorf("Check of %s: %d", c.name(), e)
		}
	}
	for i, c := range noChains() {
		if e := schur.Check(c); e != api.ErrArg {
			t.Errorf("Check of a wrong one, %d: %d", i, e)
		}
	}
}

// P8.1: both polynomials, by the chapter's words.
func TestForward(t *testing.T) {
	for _, c := range rows() {
		isForward(t, c)
	}
	r := rand.New(rand.NewSource(2))
	for i := range 240 {
		isForward(t, anyRow(r, []int{31, 31, 31, 12, 4, 2}[i%6], []int{1, 2, 16, 40, 120, 300}[i%6]))
	}
}

// P8.1: chains that may not be.
func TestForwardOfNoChains(t *testing.T) {
	for i, c := range noChains() {
		if under, over, e := schur.Forward(c); e != api.ErrArg || len(under) > 0 || len(over) > 0 {
			t.Errorf("Forward of a wrong one, %d: %s, %s, %d", i, shown(under), shown(over), e)
		}
	}
}

// P8.1, R7: one coefficient has a number of one byte more than MaxBytes, or of just as many; the greatest reflections make small polynomials.
func TestForwardAtTheBound(t *testing.T) {
	half, third := rat("1/2"), rat("1/3")
	below := func(n uint) *big.Rat { return over(whole(1), power2(n, 0)) }
	odd := over(whole(1), greatest())
	for i, c := range []struct {
		k    []*big.Rat
		far  int
		long bool
	}{
		{[]*big.Rat{below(2048), below(2047)}, 1, false},
		{[]*big.Rat{below(2048), below(2047)}, -1, false},
		{[]*big.Rat{below(2048), below(2048)}, 1, true},
		{[]*big.Rat{below(2048), below(2048)}, -1, true},
		{[]*big.Rat{below(4095), new(big.Rat)}, 1, false},
		{[]*big.Rat{new(big.Rat), below(4095)}, 1, false},
		{[]*big.Rat{half, below(4094)}, 1, false},
		{[]*big.Rat{half, below(4095)}, 1, true},
		{[]*big.Rat{below(4095), half}, 1, true},
		{[]*big.Rat{below(4094), half}, 1, false},
		{[]*big.Rat{half, odd}, 1, false}, // 3 goes into 2^4096 - 1
		{[]*big.Rat{third, odd}, 1, true},
		{[]*big.Rat{third, third, odd}, -1, true},
		// k + far is a short number, or what is below it goes into what is above the other one.
		{[]*big.Rat{over(power2(2000, -1), power2(2000, 0)), over(power2(2000, 0), power2(2000, 1))}, -1, false},
		{[]*big.Rat{over(power2(4000, -1), power2(4000, 0)), over(power2(4000, 0), power2(4000, 1))}, -1, false},
	} {
		chain := row{c.k, c.far}
		under, over := chain.polys()
		if isLong(c.k...) || isLong(under...) != c.long || isLong(over...) != c.long {
			t.Fatalf("case %d is not what it says", i)
		}
		isForward(t, chain)
	}
	// The greatest numbers, and the longest row of them.
	r := rand.New(rand.NewSource(3))
	long := row{nil, 1}
	for range 31 {
		den := new(big.Int).Lsh(big.NewInt(1), 8*api.MaxBytes)
		den.Sub(den, new(big.Int).Rand(r, den)).Sub(den, big.NewInt(1)).Or(den, big.NewInt(1))
		long.k = append(long.k, new(big.Rat).SetFrac(new(big.Int).Rand(r, den), den))
	}
	if _, _, e := schur.Forward(long.chain()); e != api.ErrLong {
		t.Errorf("of 31 long ones: %d", e)
	}
}

// Under over over is what a wave at the point x is thrown back as, cell by cell, from the far end on.
func TestForwardThrowsBack(t *testing.T) {
	r := rand.New(rand.NewSource(4))
	list := rows()
	for i := range 100 {
		list = append(list, anyRow(r, 31, 1+i%9))
	}
	for _, c := range list {
		under, o, e := schur.Forward(c.chain())
		if e != api.OK {
			continue
		}
		for _, x := range rats("0 1/2 -2/3 1 -1 7/5") {
			back := times(x, whole(int64(c.far)))
			for i := len(c.k) - 1; i >= 0; i-- {
				below := plus(whole(1), times(c.k[i], back))
				if below.Sign() == 0 {
					back = nil
					break
				}
				back = times(x, over(plus(c.k[i], back), below))
			}
			if back == nil {
				continue
			}
			u, v := terms(values(under)).value(x), terms(values(o)).value(x)
			if u.Cmp(times(v, back)) != 0 {
				t.Errorf("Forward of %s at %s: %s over %s", c.name(), x.RatString(), u.RatString(), v.RatString())
			}
		}
	}
}

// values are the numbers of fractions.
func values(l []api.Frac) []*big.Rat {
	var list []*big.Rat
	for _, x := range l {
		list = append(list, value(x))
	}
	return list
}

// R5: what is handed in stays as it is, and what is answered shares nothing with it, nor with the other answer.
func TestForwardLeavesWhatItIsHanded(t *testing.T) {
	room := fracs(rats("1/2 -1/3 1/5 1/7"))
	was := slices.Clone(room)
	c := api.Chain{K: room[:3], Far: -1}
	under, over, _ := schur.Forward(c)
	first, second := slices.Clone(under), slices.Clone(over)
	clear(under[:cap(under)])
	if !slices.Equal(over, second) || !slices.Equal(room, was) {
		t.Errorf("over is %s, the room %s", shown(over), shown(room))
	}
	clear(over[:cap(over)])
	under, over, e := schur.Forward(c)
	if !slices.Equal(under, first) || !slices.Equal(over, second) || e != api.OK || !slices.Equal(room, was) {
		t.Errorf("the second answer: %s, %s, %d; the room %s", shown(under), shown(over), e, shown(room))
	}
}

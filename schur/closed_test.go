package schur_test

import (
	"math/big"
	"math/rand"
	"slices"
	"testing"

	"diapason/api"
	"diapason/schur"
)

// isClosed asks for over less near times under: ErrLong, if that is beyond what an answer may be.
func isClosed(t *testing.T, c row, near int) {
	t.Helper()
	under, over := c.polys()
	want := over.sub(under.scale(whole(int64(near))))
	p, e := schur.Closed(c.chain(), near)
	if isLong(want...) {
		isNoPoly(t, "Closed of "+c.name(), p, e, api.ErrLong)
		return
	}
	if e != api.OK {
		t.Errorf("Closed of %s, %d: the error %d", c.name(), near, e)
	}
	isPoly(t, "Closed of "+c.name(), p, want)
}

// isNoPoly asks for an error, beside which there is nothing.
func isNoPoly(t *testing.T, what string, p api.Poly, e, want api.Errno) {
	t.Helper()
	if e != want || len(p) > 0 {
		t.Errorf("%s: %s, %d; not the error %d", what, shown(p), e, want)
	}
}

// P8.4: of both signs.
func TestClosed(t *testing.T) {
	list := rows()
	r := rand.New(rand.NewSource(13))
	for i := range 100 {
		list = append(list, anyRow(r, []int{31, 31, 12, 4, 2}[i%5], []int{1, 16, 40, 120, 300}[i%5]))
	}
	for _, c := range list {
		isClosed(t, c, 1)
		isClosed(t, c, -1)
	}
}

// P8.4, R7: what is between may be long, where the answer isn't; and the other way round.
func TestClosedAtTheBound(t *testing.T) {
	top, half := greatest(), power2(4095, 0)
	for i, c := range []struct {
		k              []*big.Rat
		far, near      int
		between, after bool
	}{
		{[]*big.Rat{over(negated(half), top), over(whole(-1), minus(top, whole(1)))}, 1, 1, true, false},
		{[]*big.Rat{over(negated(half), top), over(whole(-1), minus(top, whole(1)))}, 1, -1, true, true},
		{[]*big.Rat{over(plus(half, whole(3)), top)}, 1, 1, false, false},
		{[]*big.Rat{over(plus(half, whole(3)), top)}, 1, -1, false, true},
		{[]*big.Rat{over(plus(half, whole(3)), top)}, -1, 1, false, true},
		{[]*big.Rat{over(minus(half, whole(1)), top)}, 1, -1, false, false},
		{[]*big.Rat{over(whole(1), half)}, -1, 1, false, false},
		{[]*big.Rat{rat("1/2"), over(whole(1), half)}, 1, 1, true, true},
	} {
		chain := row{c.k, c.far}
		under, over := chain.polys()
		if isLong(c.k...) || isLong(under...) != c.between || isLong(over.sub(under.scale(whole(int64(c.near))))...) != c.after {
			t.Fatalf("case %d is not what it says", i)
		}
		isClosed(t, chain, c.near)
		isForward(t, chain)
	}
}

// P8.4: what may not be handed in.
func TestClosedOfWrongArguments(t *testing.T) {
	for _, c := range noChains() {
		for _, near := range []int{1, -1, 0, 5} {
			p, e := schur.Closed(c, near)
			isNoPoly(t, "Closed of a wrong chain", p, e, api.ErrArg)
		}
	}
	for _, near := range []int{0, 2, -2, 1 << 30, -1 << 31, 1<<31 - 1} {
		for _, c := range rows() {
			p, e := schur.Closed(c.chain(), near)
			isNoPoly(t, "Closed of a wrong sign", p, e, api.ErrArg)
		}
	}
}

// isJoin asks for both, with a nought between them: ErrLong, if these are too many.
func isJoin(t *testing.T, a, b row) {
	t.Helper()
	c, e := schur.Join(a.chain(), b.chain())
	want := row{slices.Concat(a.k, rats("0"), b.k), b.far}
	if len(want.k) > 31 {
		isNoChain(t, "Join of "+a.name()+" and "+b.name(), c, e, api.ErrLong)
		return
	}
	isChain(t, "Join of "+a.name()+" and "+b.name(), c, e, want)
}

// P8.5: each with each, of all lengths about the limit.
func TestJoin(t *testing.T) {
	list := rows()
	for _, a := range list {
		for _, b := range list {
			isJoin(t, a, b)
		}
	}
	r := rand.New(rand.NewSource(14))
	for n := range 32 {
		for more := range 32 {
			a, b := row{make([]*big.Rat, n), 1}, row{make([]*big.Rat, more), 1 - 2*r.Intn(2)}
			for i := range a.k {
				a.k[i] = anyReflection(r, 2)
			}
			for i := range b.k {
				b.k[i] = anyReflection(r, 2)
			}
			isJoin(t, a, b)
		}
	}
}

// P8.5: what may not be handed in, ahead of what would be too long.
func TestJoinOfNoChains(t *testing.T) {
	full := rows()
	for _, wrong := range noChains() {
		for _, good := range []row{rowOf("", 1), rowOf("1/2", -1)} {
			c, e := schur.Join(wrong, good.chain())
			isNoChain(t, "Join of a wrong one", c, e, api.ErrArg)
			c, e = schur.Join(good.chain(), wrong)
			isNoChain(t, "Join of a wrong second one", c, e, api.ErrArg)
		}
		for _, good := range full {
			if len(good.k) < 31 {
				continue
			}
			c, e := schur.Join(wrong, good.chain())
			isNoChain(t, "Join of a wrong one and a long one", c, e, api.ErrArg)
			c, e = schur.Join(good.chain(), wrong)
			isNoChain(t, "Join of a long one and a wrong one", c, e, api.ErrArg)
		}
		c, e := schur.Join(wrong, wrong)
		isNoChain(t, "Join of two wrong ones", c, e, api.ErrArg)
	}
}

// R5: what is handed in, and the room behind it, stays as it is, and what is answered shares nothing with it.
func TestClosedAndJoinLeaveWhatTheyAreHanded(t *testing.T) {
	first, second := fracs(rats("1/2 -1/3 1/5 1/7")), fracs(rats("1/11 1/13 1/17"))
	wasFirst, wasSecond := slices.Clone(first), slices.Clone(second)
	a, b := api.Chain{K: first[:2], Far: 1}, api.Chain{K: second[:1], Far: -1}
	for range 2 {
		c, e := schur.Join(a, b)
		isChain(t, "Join", c, e, rowOf("1/2 -1/3 0 1/11", -1))
		clear(c.K[:cap(c.K)])
		c, e = schur.Join(b, api.Chain{Far: 1})
		isChain(t, "Join of one and none", c, e, rowOf("1/11 0", 1))
		clear(c.K[:cap(c.K)])
		p, e := schur.Closed(a, -1)
		if e != api.OK {
			t.Errorf("Closed: the error %d", e)
		}
		isPoly(t, "Closed", p, of("1 0 0 1"))
		clear(p[:cap(p)])
		if !slices.Equal(first, wasFirst) || !slices.Equal(second, wasSecond) {
			t.Errorf("the rooms: %s, %s", shown(first), shown(second))
		}
	}
}

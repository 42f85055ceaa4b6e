package schur_test

import (
	"math/big"
	"math/rand"
	"slices"
	"testing"

	"diapason/api"
	"diapason/schur"
)

// back is the chain that makes under, by the chapter's words read the other way, and whether there is one; limited: with reflections that may be.
func (p terms) back(far int, limited bool) (row, bool) {
	n := len(p) - 1
	if n < 1 || p[0].Sign() != 0 || p[n].Cmp(whole(int64(far))) != 0 {
		return row{}, false
	}
	c := row{nil, far}
	under, o := p, p.turned(n).scale(whole(int64(far)))
	for ; n > 1; n-- {
		k := under.at(1)
		if !isReflection(k) || limited && isLong(k) {
			return row{}, false
		}
		c.k = append(c.k, k)
		rest := over(whole(1), minus(whole(1), times(k, k)))
		lower := terms(under[1:])
		under, o = lower.sub(o.scale(k)).scale(rest), o.sub(lower.scale(k)).scale(rest)
	}
	return c, true
}

// isBackward asks for the chain, or for ErrSchur, if there is none.
func isBackward(t *testing.T, p terms, far int) {
	t.Helper()
	c, e := schur.Backward(p.poly(), far)
	want, ok := p.back(far, true)
	if !ok {
		isNoChain(t, "Backward of "+name(p), c, e, api.ErrSchur)
		return
	}
	isChain(t, "Backward of "+name(p), c, e, want)
}

// P8.2, P8.6: of Forward's under and of Far it is the chain; of the other sign there is none.
func TestBackward(t *testing.T) {
	list := rows()
	r := rand.New(rand.NewSource(5))
	for i := range 300 {
		list = append(list, anyRow(r, []int{31, 31, 12, 4, 2}[i%5], []int{1, 16, 40, 120, 250}[i%5]))
	}
	tried := 0
	for _, c := range list {
		under, _, e := schur.Forward(c.chain())
		if e != api.OK {
			continue
		}
		tried++
		back, e := schur.Backward(under, c.far)
		isChain(t, "Backward of Forward", back, e, c)
		back, e = schur.Backward(under, -c.far)
		isNoChain(t, "Backward of the other sign", back, e, api.ErrSchur)
	}
	if tried < 200 {
		t.Errorf("%d chains have short polynomials", tried)
	}
}

// P8.2: polynomials that are of no chain: too short, with a first coefficient, a last one that is not far, reflections beyond the ends, the first one and those behind it.
func TestBackwardOfNone(t *testing.T) {
	for _, s := range []string{
		"", "1", "-1", "5", "1/2 1", "1 1", "-1 0 1", "0 2", "0 -2", "0 1/2", "0 0 2", "0 1/2 3/2", "0 1 1", "0 -1 1", "0 3/2 1", "0 1/2 1/2 1/2", "0 0 1 1", "0 0 -1 1", "0 0 5/4 1",
		"0 1/2 -3/2 1", "0 -1/2 -1/2 1", "0 -1/2 1/2 1", "0 1/2 3/2 1", "0 1/2 -1/2 -1", "0 0 0 0 1 0 0 1", "0 0 0 0 0 0 0 -1 1", "1/100 0 0 1",
	} {
		for _, far := range []int{1, -1} {
			c, e := schur.Backward(of(s).poly(), far)
			isNoChain(t, "Backward of "+s, c, e, api.ErrSchur)
		}
	}
	// The longest row, its first reflection, its last one, and both signs beyond the ends.
	for _, far := range []int64{1, -1} {
		for _, k := range rats("1 -1 2 -7/6 99/98") {
			for _, at := range []int{1, 31} {
				p := sparse(map[int]*big.Rat{at: k, 32: whole(far)})
				c, e := schur.Backward(p.poly(), int(far))
				isNoChain(t, "Backward of "+name(p), c, e, api.ErrSchur)
			}
		}
		isBackward(t, sparse(map[int]*big.Rat{32: whole(far)}), int(far))
		isBackward(t, sparse(map[int]*big.Rat{1: rat("97/98"), 32: whole(far)}), int(far))
		isBackward(t, sparse(map[int]*big.Rat{31: rat("97/98"), 32: whole(far)}), int(far))
	}
}

// P8.2: polynomials near those of chains, and any with the right ends.
func TestBackwardAgainstTheLibrary(t *testing.T) {
	r := rand.New(rand.NewSource(6))
	found := 0
	for i := range 300 {
		bytes := []int{1, 1, 2, 4, 30}[i%5]
		c := anyRow(r, []int{31, 6, 9, 31, 5}[i%5], bytes)
		under, _ := c.polys()
		switch at := r.Intn(len(under)); i % 4 {
		case 0:
			under[at] = plus(under[at], over(anyReflection(r, bytes), whole(1000)))
		case 1:
			under[at] = negated(under[at])
		case 2:
			for k := 1; k < len(under)-1; k++ {
				under[k] = times(anyReflection(r, 1), big.NewRat(1, int64(1+r.Intn(2*len(under)))))
			}
		}
		if isLong(under...) || len(under.trim()) < len(under) {
			continue
		}
		isBackward(t, under, c.far)
		if _, ok := under.back(c.far, true); ok {
			found++
		}
	}
	if found < 75 {
		t.Errorf("%d are of a chain", found)
	}
}

// P8.2: a reflection of more than MaxBytes bytes makes a chain that may not be, however short under is.
func TestBackwardAtTheBound(t *testing.T) {
	for i, c := range []struct {
		p  terms
		ok bool
	}{
		// The second reflection is 1/5 over a power of 2.
		{terms{new(big.Rat), rat("2/3"), over(rat("1/3"), power2(4093, 0)), whole(1)}, true},
		{terms{new(big.Rat), rat("2/3"), over(rat("1/3"), power2(4094, 0)), whole(1)}, false},
		{terms{new(big.Rat), over(whole(1), greatest()), whole(1)}, true},
		{terms{new(big.Rat), over(whole(1), power2(2000, 1)), over(whole(1), power2(3000, 1)), whole(-1)}, false},
		{terms{new(big.Rat), over(power2(4000, -1), power2(4095, 1)), over(whole(1), power2(4095, -3)), rat("1/3"), whole(1)}, false},
		{terms{new(big.Rat), new(big.Rat), over(whole(1), greatest()), whole(1)}, true},
		// The second reflection is -1 over one number less than the greatest, and over one number more.
		{terms{new(big.Rat), over(whole(1), greatest()), over(whole(-1), greatest()), whole(-1)}, true},
		{terms{new(big.Rat), over(whole(-1), greatest()), over(whole(-1), greatest()), whole(-1)}, false},
	} {
		far := c.p[len(c.p)-1].Num().Int64()
		_, short := c.p.back(int(far), true)
		_, any := c.p.back(int(far), false)
		if isLong(c.p...) || !any || short != c.ok {
			t.Fatalf("case %d is not what it says", i)
		}
		isBackward(t, c.p, int(far))
		over := c.p.turned(len(c.p) - 1).scale(whole(far))
		if in, e := schur.Inside(over.poly()); !in || e != api.OK {
			t.Errorf("case %d: Inside of over: %v, %d", i, in, e)
		}
	}
}

// P8.2: deep rows whose reflections grow, until one is too long.
func TestBackwardWhereReflectionsGrow(t *testing.T) {
	r := rand.New(rand.NewSource(7))
	for i := range 5 {
		p := sparse(map[int]*big.Rat{32: whole(1)})
		for k := 1; k < 32; k++ {
			p[k] = times(anyReflection(r, 1+i%5), rat("1/40"))
		}
		over := p.turned(32)
		if _, ok := p.back(1, true); ok && i%5 > 0 || !over.falls() {
			t.Fatalf("%s is not what it says", name(p))
		}
		isBackward(t, p, 1)
		if in, e := schur.Inside(over.poly()); !in || e != api.OK {
			t.Errorf("Inside of %s: %v, %d", name(over), in, e)
		}
	}
}

// falls tells whether the first coefficient is above the sum of the others, without their signs: then all roots are farther than 1.
func (p terms) falls() bool {
	sum := new(big.Rat)
	for _, c := range p[1:] {
		sum.Add(sum, new(big.Rat).Abs(c))
	}
	return p[0].Cmp(sum) > 0
}

// P8.2: what may not be handed in, ahead of all else.
func TestBackwardOfWrongArguments(t *testing.T) {
	for _, far := range []int{0, 2, -2, 1 << 30, -1 << 31, 1<<31 - 1} {
		for _, s := range []string{"", "1", "0 1", "0 2", "1 1", "0 1/2 1"} {
			c, e := schur.Backward(of(s).poly(), far)
			isNoChain(t, "Backward of a wrong sign", c, e, api.ErrArg)
		}
	}
	for _, p := range noPolys() {
		for _, far := range []int{1, -1, 0, 7} {
			c, e := schur.Backward(p, far)
			isNoChain(t, "Backward of a wrong polynomial", c, e, api.ErrArg)
		}
	}
}

// R5: what is handed in stays as it is, and what is answered shares nothing with it.
func TestBackwardLeavesWhatItIsHanded(t *testing.T) {
	room := of("0 1/2 1/2 1 7 8").poly()
	was := slices.Clone(room)
	c, _ := schur.Backward(room[:4], 1)
	clear(c.K[:cap(c.K)])
	if !slices.Equal(room, was) {
		t.Errorf("the room: %s", shown(room))
	}
	c, e := schur.Backward(room[:4], 1)
	isChain(t, "the second answer", c, e, rowOf("1/2 1/3", 1))
}

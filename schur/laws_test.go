package schur_test

import (
	"math/rand"
	"slices"
	"testing"

	"diapason/api"
	"diapason/poly"
	"diapason/ratio"
	"diapason/schur"
)

// made is what Forward answers of a chain.
type made struct {
	c           row
	under, over api.Poly
}

// forwards are chains whose polynomials are short enough.
func forwards(t *testing.T, seed int64) []made {
	list := rows()
	r := rand.New(rand.NewSource(seed))
	for i := range 300 {
		list = append(list, anyRow(r, []int{31, 31, 12, 5}[i%4], []int{1, 9, 30, 60}[i%4]))
	}
	var short []made
	for _, c := range list {
		under, over, e := schur.Forward(c.chain())
		switch {
		case e == api.OK && poly.Check(under) == api.OK && poly.Check(over) == api.OK:
			short = append(short, made{c, under, over})
		case e != api.ErrLong:
			t.Errorf("Forward of %s: %s, %s, %d", c.name(), shown(under), shown(over), e)
		}
	}
	if len(short) < 300 {
		t.Errorf("%d are short", len(short))
	}
	return short
}

// P8.6 (W4): over begins with 1, and is Inside; under has the degree N, begins with nought, and is Far times over turned round; Backward is the chain.
func TestLawsOfForward(t *testing.T) {
	one, nought := frac(whole(1)), frac(whole(0))
	for _, m := range forwards(t, 15) {
		n := len(m.c.k) + 1
		if m.over[0] != one || len(m.under) != n+1 || m.under[0] != nought {
			t.Fatalf("of %s: %s and %s", m.c.name(), shown(m.under), shown(m.over))
		}
		turned, e := poly.Turned(m.over, n)
		signed, f := poly.Scale(turned, frac(whole(int64(m.c.far))))
		if e != api.OK || f != api.OK || !slices.Equal(signed, m.under) {
			t.Errorf("of %s: under is %s, over turned round %s", m.c.name(), shown(m.under), shown(turned))
		}
		if in, e := schur.Inside(m.over); !in || e != api.OK {
			t.Errorf("Inside of over of %s: %v, %d", m.c.name(), in, e)
		}
		if in, e := schur.Inside(m.under); in || e != api.OK {
			t.Errorf("Inside of under of %s: %v, %d", m.c.name(), in, e)
		}
		back, e := schur.Backward(m.under, m.c.far)
		isChain(t, "Backward", back, e, m.c)
		if e := schur.Check(back); e != api.OK {
			t.Errorf("Check of Backward: %d", e)
		}
	}
}

// W4: each polynomial that begins with 1 and is Inside comes of a row of reflections, if these are short enough; none comes of one that is not.
func TestEachInsideComesOfARow(t *testing.T) {
	r := rand.New(rand.NewSource(16))
	var count [2]int
	for i := range 400 {
		n := 1 + r.Intn(9)
		over := make(terms, n)
		for k := range over {
			over[k] = anyReflection(r, 1)
			if i%2 == 0 {
				over[k] = times(over[k], rat("1/2"))
			}
		}
		over[0] = whole(1)
		far := 1 - 2*r.Intn(2)
		in, e := schur.Inside(over.trim().poly())
		under := over.turned(n).scale(whole(int64(far)))
		c, f := schur.Backward(under.poly(), far)
		if e != api.OK || in != (f == api.OK) || !in && f != api.ErrSchur {
			t.Errorf("over %s: Inside %v, %d; Backward %d", name(over), in, e, f)
		}
		if !in {
			count[0]++
			continue
		}
		count[1]++
		again, _, e := schur.Forward(c)
		if e != api.OK {
			t.Errorf("Forward of Backward: %d", e)
		}
		isPoly(t, "Forward of Backward", again, under)
	}
	if count[0] < 50 || count[1] < 50 {
		t.Errorf("%v are not inside, and are", count)
	}
}

// P8.7: Inside of a product is that of both factors.
func TestInsideOfProducts(t *testing.T) {
	r := rand.New(rand.NewSource(17))
	var list []terms
	for i := range 60 {
		p := make(terms, 1+r.Intn(12))
		for k := range p {
			p[k] = anyReflection(r, 1+i%4)
		}
		p[0] = plus(p[0], whole(int64(i%7)))
		if p = p.trim(); len(p) > 0 {
			list = append(list, p)
		}
	}
	for _, p := range list {
		for _, q := range list {
			product, e := poly.Mul(p.poly(), q.poly())
			first, f := schur.Inside(p.poly())
			second, g := schur.Inside(q.poly())
			both, h := schur.Inside(product)
			if both != (first && second) || e != api.OK || f != api.OK || g != api.OK || h != api.OK {
				t.Errorf("Inside of %s times %s: %v, of both %v and %v", name(p), name(q), both, first, second)
			}
		}
	}
}

// P8.7: Closed of both signs add up to over twice; each is, but for its sign, itself turned round.
func TestLawsOfClosed(t *testing.T) {
	for _, m := range forwards(t, 18) {
		n := len(m.c.k) + 1
		twice, _ := poly.Scale(m.over, frac(whole(2)))
		plain, e := schur.Closed(m.c.chain(), 1)
		turned, f := schur.Closed(m.c.chain(), -1)
		if e != api.OK || f != api.OK {
			// Sums may be long where what is added isn't.
			continue
		}
		if sum, e := poly.Add(plain, turned); e != api.OK || !slices.Equal(sum, twice) {
			t.Errorf("both Closed of %s: %s, not %s", m.c.name(), shown(sum), shown(twice))
		}
		for near, p := range map[int]api.Poly{1: plain, -1: turned} {
			sign := frac(whole(int64(-near * m.c.far)))
			if len(p) != n+1 {
				t.Fatalf("Closed of %s, %d: %s", m.c.name(), near, shown(p))
			}
			for i := range p {
				if x, e := ratio.Mul(sign, p[n-i]); x != p[i] || e != api.OK {
					t.Errorf("Closed of %s, %d: %s at %d", m.c.name(), near, shown(p), i)
				}
			}
		}
	}
}

// A row that is joined to another throws back what the second one does, through the first one: its polynomials are those of the first one with the second one's fraction at its end.
func TestJoinGoesOn(t *testing.T) {
	r := rand.New(rand.NewSource(19))
	for range 100 {
		a, b := anyRow(r, 12, 2), anyRow(r, 12, 2)
		c, e := schur.Join(a.chain(), b.chain())
		under, over, f := schur.Forward(c)
		u, o := b.polys()
		x := of("0 1")
		u = x.mul(u) // the nought between them
		for i := len(a.k) - 1; i >= 0; i-- {
			u, o = x.mul(o.scale(a.k[i]).add(u)), o.add(u.scale(a.k[i]))
		}
		if e != api.OK || f != api.OK {
			t.Fatalf("Join of %s and %s: %d, %d", a.name(), b.name(), e, f)
		}
		isPoly(t, "under of Join", under, u)
		isPoly(t, "over of Join", over, o)
	}
}

package heard_test

import (
	"math/big"
	"math/rand"
	"slices"
	"strconv"
	"testing"

	"diapason/api"
	"diapason/bore"
	"diapason/heard"
	"diapason/ratio"
)

// ownFracs is a bore's own answer as fractions, at most so many numbers.
func ownFracs(b api.Bore, most int) []api.Frac { return fracs(ownShort(b, most)) }

// P11.4 (W3): a bore's own answer tells the bore as Simple has it, open at the mouth, by its first area; by another one all areas are that much greater. Its reflections are its chain's; what is told fits.
func TestBoresAreHeard(t *testing.T) {
	r := rand.New(rand.NewSource(1))
	done, turned := 0, 0
	for _, b := range bores(5, 150) {
		cells, _ := bore.Long(b)
		l := ownFracs(b, cells+r.Intn(129-cells))
		if len(l) < cells {
			continue
		}
		want, _ := bore.Simple(b)
		want.Near = api.Open
		first := b.Pieces[0].Area
		got, e := heard.Bore(l, cells, first, b.Far)
		isBore(t, "Bore of the answer of "+name(b), got, e, want)
		if n, all, e := heard.Fits(l, got); n != len(l) || !all || e != api.OK {
			t.Errorf("Fits of the bore heard in %s: %d, %t, %d", name(b), n, all, e)
		}
		c, _ := bore.Chain(b)
		k, e := heard.Reflections(l, cells-1)
		if !slices.Equal(k, c.K) || e != api.OK {
			t.Errorf("Reflections of the answer of %s: %s, %d", name(b), shown(k), e)
		}
		done++
		area := frac(big.NewRat(1+r.Int63n(9), 1+r.Int63n(9)))
		factor, _ := ratio.Quo(area, first)
		for i := range want.Pieces {
			want.Pieces[i].Area, _ = ratio.Mul(want.Pieces[i].Area, factor)
		}
		got, e = heard.Bore(l, cells, area, b.Far)
		if bore.Check(want) != api.OK {
			isNoBore(t, "greater than "+name(b), got, e, api.ErrLong)
			continue
		}
		isBore(t, "greater than "+name(b), got, e, want)
		turned++
	}
	if done < 80 || turned < 60 {
		t.Errorf("%d bores, %d of another area", done, turned)
	}
}

// P11.5: one number of a bore's answer among the first long ones turned: the bore told, if any, is another one; a number beyond them turned: ErrHeard.
func TestTurnedAnswers(t *testing.T) {
	r := rand.New(rand.NewSource(2))
	var within, beyond, others int
	for _, b := range bores(6, 150) {
		cells, _ := bore.Long(b)
		l := ownFracs(b, cells+r.Intn(20))
		if len(l) < cells {
			continue
		}
		first := b.Pieces[0].Area
		was, _ := heard.Bore(l, cells, first, b.Far)
		for range 6 {
			place := r.Intn(len(l))
			other := slices.Clone(l)
			if x := l[place]; x.Num != "" && r.Intn(2) == 0 {
				other[place].Neg = !x.Neg
			} else {
				other[place] = frac(anyNumber(r, 1+r.Intn(3)))
			}
			if other[place] == l[place] {
				continue
			}
			what := name(b) + ", turned at " + strconv.Itoa(place)
			got, e := heard.Bore(other, cells, first, b.Far)
			if place >= cells {
				isNoBore(t, what, got, e, api.ErrHeard)
				beyond++
				continue
			}
			within++
			if e == api.OK {
				others++
				if slices.Equal(got.Pieces, was.Pieces) {
					t.Errorf("%s: the bore is the same", what)
				}
				if n, all, _ := heard.Fits(other, got); n != len(other) || !all {
					t.Errorf("%s: %s does not fit", what, name(got))
				}
			} else if e != api.ErrHeard && e != api.ErrLong {
				t.Errorf("%s: %d", what, e)
			}
		}
	}
	if within < 150 || beyond < 150 {
		t.Errorf("%d within, %d beyond, %d bores", within, beyond, others)
	}
}

// P11.5: numbers turned so that there is another bore.
func TestTurnedAnswersOfBores(t *testing.T) {
	for _, c := range []struct {
		answer string
		long   int
		far    int
		want   string
	}{
		{"-1/2 -3/4", 2, api.Open, "1x1 3x1"},
		{"1/2 -3/4", 2, api.Open, "1x1 1/3x1"},
		{"1/2 -3/4 -3/8", 2, api.Open, "1x1 1/3x1"},
		{"0 1/3 8/9", 3, api.Stopped, "1x2 1/2x1"},
		{"0 -1/3 8/9", 3, api.Stopped, "1x2 2x1"},
	} {
		b, e := heard.Bore(fracs(rats(c.answer)), c.long, frac(whole(1)), c.far)
		isBore(t, c.answer, b, e, pipe(api.Open, c.far, c.want))
	}
}

// R6: what is heard hangs on what was handed in alone.
func TestHeardTwice(t *testing.T) {
	for _, b := range bores(7, 20) {
		cells, _ := bore.Long(b)
		l := ownFracs(b, cells+2)
		if len(l) < cells {
			continue
		}
		one, e := heard.Bore(l, cells, b.Pieces[0].Area, b.Far)
		other, f := heard.Bore(slices.Clone(l), cells, b.Pieces[0].Area, b.Far)
		isBore(t, name(b), other, f, one)
		if e != f {
			t.Errorf("%s: %d and %d", name(b), e, f)
		}
	}
}

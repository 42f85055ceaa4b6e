package mode_test

import (
	"math/big"
	"testing"

	"diapason/api"
	"diapason/mode"
)

// endsOf are the ends of gaps, rising, some of them hard by another.
func endsOf() []*big.Rat {
	near := over(whole(1), greatest())
	return []*big.Rat{
		negated(greatest()), whole(-2), rat("-1/2"), negated(near), whole(0), near, rat("1/3"), rat("13/8"), rat("7/4"), whole(2), minus(greatest(), whole(1)), greatest(),
	}
}

// P12.5: each two modes that may be, by the chapter's words.
func TestAhead(t *testing.T) {
	type told struct {
		lo, hi *big.Rat // none of Half
		m      api.Mode
	}
	list := []told{{m: api.Mode{Half: true}}}
	ends := endsOf()
	for i, lo := range ends {
		for _, hi := range ends[i:] {
			list = append(list, told{lo, hi, api.Mode{Gap: gap(lo, hi)}})
		}
	}
	for _, a := range list {
		for _, b := range list {
			want := !a.m.Half && (b.m.Half || a.hi.Cmp(b.lo) <= 0 && a.lo.Cmp(b.hi) < 0)
			is, e := mode.Ahead(a.m, b.m)
			isNumber(t, modeName(a.m)+", "+modeName(b.m), is, e, want, api.OK)
		}
	}
}

// P12.5: modes that may not be, as either one, whatever the other one is.
func TestAheadOfNoMode(t *testing.T) {
	none := []api.Mode{{}, {Half: true, Gap: gap(whole(0), whole(0))}, {Half: true, Gap: gap(whole(1), whole(2))}, {Half: true, Gap: api.Gap{Lo: frac(whole(0))}}, {Half: true, Gap: api.Gap{Hi: frac(whole(0))}}}
	none = append(none, api.Mode{Half: true, Gap: api.Gap{Hi: api.Frac{Neg: true}}}, api.Mode{Half: true, Gap: api.Gap{Lo: api.Frac{Num: "\x01"}}})
	for _, g := range noGaps() {
		none = append(none, api.Mode{Gap: g})
		if g != (api.Gap{}) {
			none = append(none, api.Mode{Gap: g, Half: true})
		}
	}
	good := []api.Mode{{Half: true}, modeOf("0"), modeOf("1to2"), modeOf("-5to9")}
	for i, m := range none {
		for _, other := range append(good, none[0], m) {
			is, e := mode.Ahead(m, other)
			isNumber(t, modeName(m)+", "+modeName(other), is, e, false, api.ErrArg)
			is, e = mode.Ahead(other, m)
			if is || e != api.ErrArg {
				t.Errorf("case %d: %s, %s: %t, %d", i, modeName(other), modeName(m), is, e)
			}
		}
	}
}

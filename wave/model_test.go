package wave_test

import (
	"math/big"
	"slices"
	"testing"

	"diapason/api"
	"diapason/wave"
)

// model is a wave by the document's own words, with the library's numbers.
type model struct {
	areas, k    []*big.Rat
	near, far   *big.Rat
	forth, back []*big.Rat
	ticks       int
}

// signs are those of the ends.
var signs = map[int]int64{api.Stopped: 1, api.Open: -1}

// newModel is a wave in the bore, at the tick 0.
func newModel(b api.Bore) *model {
	m := &model{near: whole(signs[b.Near]), far: whole(signs[b.Far])}
	for _, p := range b.Pieces {
		for range p.Long {
			m.areas = append(m.areas, value(p.Area))
			m.forth = append(m.forth, whole(0))
			m.back = append(m.back, whole(0))
		}
	}
	for i := range m.areas[1:] {
		s, t := m.areas[i], m.areas[i+1]
		m.k = append(m.k, over(minus(s, t), plus(s, t)))
	}
	return m
}

// silent is the model of the bore whose near end throws nothing back, in which forth in cell 1 is 1.
func silent(b api.Bore) *model {
	m := newModel(b)
	m.near = whole(0)
	m.put(whole(1))
	return m
}

// copied goes its own way.
func (m *model) copied() *model {
	other := *m
	other.forth, other.back = slices.Clone(m.forth), slices.Clone(m.back)
	return &other
}

// put adds x to forth in cell 1.
func (m *model) put(x *big.Rat) { m.forth[0] = plus(m.forth[0], x) }

// tick tells what comes back.
func (m *model) tick() *big.Rat {
	n := len(m.areas)
	came := m.back[0]
	forth, back := make([]*big.Rat, n), make([]*big.Rat, n)
	forth[0] = times(m.near, m.back[0])
	back[n-1] = times(m.far, m.forth[n-1])
	for i, k := range m.k {
		forth[i+1] = minus(times(plus(whole(1), k), m.forth[i]), times(k, m.back[i+1]))
		back[i] = plus(times(k, m.forth[i]), times(minus(whole(1), k), m.back[i+1]))
	}
	m.forth, m.back = forth, back
	m.ticks++
	return came
}

// isLong tells whether a number is too long for a wave.
func (m *model) isLong() bool {
	return slices.ContainsFunc(m.forth, isLong) || slices.ContainsFunc(m.back, isLong)
}

// energy is the sum of the squares, times the areas.
func (m *model) energy() *big.Rat {
	sum := whole(0)
	for i, area := range m.areas {
		both := plus(times(m.forth[i], m.forth[i]), times(m.back[i], m.back[i]))
		sum = plus(sum, times(area, both))
	}
	return sum
}

// isAs holds what a wave tells of itself, but for its energy, against the model.
func isAs(t *testing.T, what string, w *wave.Wave, m *model) {
	t.Helper()
	if w.Now() != m.ticks {
		t.Errorf("%s: Now = %d, not %d", what, w.Now(), m.ticks)
	}
	forth, back, e := w.Shape()
	isList(t, what+": forth", forth, e, m.forth)
	isList(t, what+": back", back, e, m.back)
}

// isEnergy holds a wave's energy against the model.
func isEnergy(t *testing.T, what string, w *wave.Wave, m *model) {
	t.Helper()
	energy, e := w.Energy()
	if want := m.energy(); !isLong(want) {
		isFrac(t, what+": Energy", energy, e, want)
	} else if energy != (api.Frac{}) || e != api.ErrLong {
		t.Errorf("%s: Energy = %s, %d; not ErrLong", what, told(energy), e)
	}
}

// puts puts x into both, and asks for the error that the model tells.
func puts(t *testing.T, what string, w *wave.Wave, m *model, x *big.Rat) {
	t.Helper()
	was := m.copied()
	m.put(x)
	want := api.OK
	if m.isLong() {
		*m, want = *was, api.ErrLong
	}
	if e := w.Put(frac(x)); e != want {
		t.Errorf("%s: Put(%s): %d, not %d", what, told(frac(x)), e, want)
	}
}

// ticks does a tick of both, and tells whether there was one: not, if a number would be too long.
func ticks(t *testing.T, what string, w *wave.Wave, m *model) bool {
	t.Helper()
	was := m.copied()
	want := m.tick()
	came, e := w.Tick()
	if m.isLong() || was.ticks == api.MaxTicks {
		*m = *was
		if came != (api.Frac{}) || e != api.ErrLong {
			t.Errorf("%s: Tick = %s, %d; not ErrLong", what, told(came), e)
		}
		return false
	}
	isFrac(t, what+": Tick", came, e, want)
	return true
}

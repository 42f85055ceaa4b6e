package wave_test

import (
	"math/rand"
	"slices"
	"testing"

	"diapason/api"
	"diapason/ratio"
	"diapason/wave"
)

// waveIn is a wave in the bore.
func waveIn(t *testing.T, b api.Bore) *wave.Wave {
	t.Helper()
	w, e := wave.New(b)
	if e != api.OK {
		t.Fatalf("New of %s: %d", name(b), e)
	}
	return w
}

// P10.6 (W2): a tick leaves the energy what it was.
func TestTickKeepsTheEnergy(t *testing.T) {
	r := rand.New(rand.NewSource(11))
	done := 0
	for _, b := range bores(11, 60) {
		w := waveIn(t, b)
		for i := range 40 {
			if i < 5 {
				w.Put(frac(anyPush(r, 2)))
			}
			was, e := w.Energy()
			_, f := w.Tick()
			is, g := w.Energy()
			if f == api.ErrLong {
				break
			}
			if was != is || e != api.OK || f != api.OK || g != api.OK {
				t.Fatalf("%s at %d: %s, %d; %s, %d", name(b), i, told(was), e, told(is), g)
			}
			done++
		}
	}
	if done < 1000 {
		t.Errorf("%d ticks", done)
	}
}

// sums are those of numbers at one place.
func sums(l, m []api.Frac) []api.Frac {
	made := make([]api.Frac, len(l))
	for i := range l {
		made[i], _ = ratio.Add(l[i], m[i])
	}
	return made
}

// P10.6: two waves put together go as both.
func TestWavesTogether(t *testing.T) {
	r := rand.New(rand.NewSource(12))
	for _, b := range bores(13, 60) {
		one, other, both := waveIn(t, b), waveIn(t, b), waveIn(t, b)
		for i := range 12 {
			x, y := frac(anyPush(r, 3)), frac(anyPush(r, 2))
			switch r.Intn(3) {
			case 0:
				one.Put(x)
				both.Put(x)
			case 1:
				one.Put(x)
				other.Put(y)
				sum, _ := ratio.Add(x, y)
				both.Put(sum)
			}
			came, e := one.Tick()
			more, f := other.Tick()
			all, g := both.Tick()
			if e != api.OK || f != api.OK || g != api.OK {
				break
			}
			if sum, _ := ratio.Add(came, more); sum != all {
				t.Errorf("%s at %d: %s comes back, not %s", name(b), i, told(all), told(sum))
			}
			forth, back, _ := one.Shape()
			otherForth, otherBack, _ := other.Shape()
			allForth, allBack, _ := both.Shape()
			if !slices.Equal(allForth, sums(forth, otherForth)) || !slices.Equal(allBack, sums(back, otherBack)) {
				t.Fatalf("%s at %d: %s and %s", name(b), i, shown(allForth), shown(allBack))
			}
		}
	}
}

// P10.7: without a push nothing comes back.
func TestNothingComesOfNothing(t *testing.T) {
	for _, b := range bores(14, 40) {
		w := waveIn(t, b)
		for range 70 {
			came, e := w.Tick()
			isFrac(t, name(b), came, e, whole(0))
		}
	}
}

// P10.7: a push x put at the tick t comes back at the ticks t + 2 i, x times the answer i, if what the mouth throws back is taken out again; at all others nothing does.
func TestPushesComeBackAsAnswers(t *testing.T) {
	r := rand.New(rand.NewSource(15))
	done := 0
	for _, b := range bores(15, 60) {
		w := waveIn(t, b)
		start := r.Intn(5)
		for range start {
			w.Tick()
		}
		x := anyPush(r, 2)
		w.Put(frac(x))
		for k := 1; k <= 24; k++ {
			came, e := w.Tick()
			if e == api.ErrLong {
				break
			}
			want := whole(0)
			if k%2 == 0 {
				l, _ := wave.Answer(b, k/2)
				want = times(x, value(l[k/2-1]))
			}
			isFrac(t, name(b), came, e, want)
			thrown := times(want, whole(signs[b.Near]))
			if e := w.Put(frac(negated(thrown))); e != api.OK {
				t.Fatalf("%s: Put: %d", name(b), e)
			}
			done++
		}
	}
	if done < 1000 {
		t.Errorf("%d ticks", done)
	}
}

// R6: what a wave tells hangs on what was done to it alone.
func TestWavesAreTheSame(t *testing.T) {
	for _, b := range bores(16, 30) {
		w, again := waveIn(t, b), waveIn(t, b)
		for range 9 {
			w.Put(frac(rat("2/3")))
			// What was refused, and what was asked, leaves it as it is.
			again.Put(api.Frac{})
			again.Put(frac(rat("2/3")))
			again.Energy()
			again.Copy().Put(frac(whole(9)))
			x, e := w.Tick()
			y, f := again.Tick()
			if x != y || e != f {
				t.Errorf("%s: %s, %d; again %s, %d", name(b), told(x), e, told(y), f)
			}
		}
	}
}

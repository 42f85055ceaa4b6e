package echo_test

import (
	"math/rand"
	"reflect"
	"slices"
	"testing"

	"diapason/api"
	"diapason/disc"
	"diapason/echo"
	"diapason/gauss"
	"diapason/ratio"
	"diapason/turn"
)

// P14.5 (W2): as much comes back as went; at -t it is the mirror image.
func TestAtIsOnTheCircle(t *testing.T) {
	r := rand.New(rand.NewSource(1))
	asked := 0
	for _, b := range bores(13, 200) {
		for _, bytes := range []int{1, 2, 3, 32} {
			tangent := frac(anyTangent(r, bytes))
			z, e := echo.At(b, tangent)
			turned, _ := ratio.Sub(frac(whole(0)), tangent)
			other, otherE := echo.At(b, turned)
			if e != otherE {
				t.Errorf("%s: %d at %s, %d at the mirror image", name(b), e, told(tangent), otherE)
			}
			if e != api.OK {
				continue
			}
			asked++
			if norm, e := gauss.Norm(z); norm != frac(whole(1)) || e != api.OK {
				t.Errorf("%s at %s: the norm %s, %d", name(b), told(tangent), told(norm), e)
			}
			mirror, e := gauss.Conj(z)
			isGauss(t, name(b)+" at the mirror image of "+told(tangent), other, e, mirror)
		}
	}
	if asked < 300 {
		t.Errorf("%d echoes are short enough", asked)
	}
}

// P14.5: discs have the exact echo at the exact point, and 1's distance.
func TestDiscHasTheEcho(t *testing.T) {
	r := rand.New(rand.NewSource(2))
	parts := fineParts()
	answered := 0
	for _, b := range bores(14, 50) {
		for _, n := range []int{0, 1, 2, 3, 7, 16} {
			for _, k := range places(r, n)[:16] {
				d, e := echo.Disc(b, k, n)
				if e != api.OK {
					continue
				}
				answered++
				if !hasFine(d, fineEcho(b, finePoint(parts, k, n))) {
					t.Errorf("%s: %v has not the echo", call("Disc", b, k, n), d)
				}
				if s, e := disc.Abs(d); s.Lo > 1 || s.Hi < 1 || e != api.OK {
					t.Errorf("%s: %v is from %v to %v far from 0, %d", call("Disc", b, k, n), d, s.Lo, s.Hi, e)
				}
			}
		}
	}
	if answered < 3000 {
		t.Errorf("%d discs are answered", answered)
	}
}

// P14.5: at quarters, that is at 1, i and -i, discs have what At tells.
func TestDiscAtQuarters(t *testing.T) {
	answered := 0
	for _, b := range bores(15, 100) {
		for k, tangent := range map[int]int64{0: 0, 1: 1, 3: -1} {
			z, e := echo.At(b, frac(whole(tangent)))
			if e != api.OK {
				t.Fatalf("%s at %d: %d", name(b), tangent, e)
			}
			d, e := echo.Disc(b, k, 2)
			if e != api.OK {
				continue
			}
			answered++
			if has, e := disc.Has(d, z); !has || e != api.OK {
				t.Errorf("%s: %v has not %s, %d", call("Disc", b, k, 2), d, shown(z), e)
			}
		}
	}
	if answered < 200 {
		t.Errorf("%d discs are answered", answered)
	}
}

// P14.5: at 0 the echo is the sign of the far end.
func TestEchoAtNought(t *testing.T) {
	for _, b := range bores(16, 200) {
		sign := signOf(b.Far)
		z, e := echo.At(b, frac(whole(0)))
		isGauss(t, "At("+name(b)+", 0)", z, e, gauss.Of(sign, 0))
		for n := range api.MaxTurn + 1 {
			for _, k := range []int{0, 1 << n, -1 << n} {
				v, e := echo.Wave(b, k, n)
				isNumber(t, call("Wave", b, k, n), v, e, complex(float64(sign), 0), api.OK)
				d, e := echo.Disc(b, k, n)
				if has, _ := disc.Has(d, gauss.Of(sign, 0)); e == api.OK && !has {
					t.Errorf("%s: %v has not %d", call("Disc", b, k, n), d, sign)
				}
			}
		}
	}
}

// P14.6: at quarters the echo of a bore of one area is the point to the power of the length, times the sign of the far end.
func TestEchoOfOneArea(t *testing.T) {
	points := [4]complex128{1, 1i, -1, -1i}
	for long := 1; long <= api.MaxDegree; long++ {
		for _, far := range []int{api.Stopped, api.Open} {
			one := api.Bore{Pieces: []api.Piece{{Area: frac(rat("7/3")), Long: long}}, Near: api.Open, Far: far}
			for q := -9; q < 10; q++ {
				want := points[(q*long+64*9)%4]
				if far == api.Open {
					want = points[(q*long+64*9+2)%4]
				}
				for n := 2; n <= api.MaxTurn; n++ {
					z, e := echo.Wave(one, q<<(n-2), n)
					isNumber(t, call("Wave", one, q<<(n-2), n), z, e, want, api.OK)
				}
				d, e := echo.Disc(one, q, 2)
				isDisc(t, call("Disc", one, q, 2), d, e, api.Disc{C: want}, api.OK)
			}
		}
	}
}

// P14.6: if all is kept, Leaky is Wave.
func TestLeakyOfNoLoss(t *testing.T) {
	r := rand.New(rand.NewSource(3))
	for _, b := range bores(17, 40) {
		for n := range api.MaxTurn + 1 {
			for _, k := range places(r, n) {
				wave, waveE := echo.Wave(b, k, n)
				z, e := echo.Leaky(b, 1, k, n)
				isNumber(t, call("Leaky", b, k, n), z, e, wave, waveE)
			}
		}
	}
}

// P14.6: Row's numbers at k and at 2^n - k are mirror images.
func TestRowIsMirrored(t *testing.T) {
	for i, b := range bores(18, 100) {
		n := i % 11
		l, e := echo.Row(b, n)
		if len(l) != 1<<n || e != api.OK {
			t.Fatalf("%s: %d numbers, %d", call("Row", b, 0, n), len(l), e)
		}
		for k := 1; k < len(l); k++ {
			mirror := complex(real(l[k])+0, -imag(l[k])+0)
			isNumber(t, call("Row", b, len(l)-k, n), l[len(l)-k], e, mirror, api.OK)
		}
	}
}

// P14.2, P4.6: where a disc is answered, its middle is the echo by floats, as all middles are by the same steps.
func TestDiscsMiddleIsWave(t *testing.T) {
	r := rand.New(rand.NewSource(4))
	for _, b := range bores(19, 100) {
		for n := range api.MaxTurn + 1 {
			for _, k := range places(r, n)[:6] {
				if d, e := echo.Disc(b, k, n); e == api.OK {
					z, e := echo.Wave(b, k, n)
					isNumber(t, call("Wave", b, k, n), z, e, d.C, api.OK)
				}
			}
		}
	}
}

// P14.1, P14.2: where At and Wave are of one point, they are near to each other, in bores that are not much wider anywhere than elsewhere.
func TestAtAndWaveAreNear(t *testing.T) {
	r := rand.New(rand.NewSource(5))
	for range 200 {
		b := mildBore(r)
		for k, tangent := range map[int]int64{0: 0, 1: 1, 3: -1} {
			z, e := echo.At(b, frac(whole(tangent)))
			exact, _ := gauss.Complex(z)
			wave, waveE := echo.Wave(b, k, 2)
			far := wave - exact
			if e != api.OK || waveE != api.OK || real(far)*real(far)+imag(far)*imag(far) > 1e-12 {
				t.Errorf("%s at %d: %v, %d and %v, %d", name(b), tangent, exact, e, wave, waveE)
			}
		}
	}
}

// R5, R6: no call changes the bore or keeps it, and each call answers the same again.
func TestCallsChangeNothing(t *testing.T) {
	for _, b := range bores(20, 40) {
		room := append(slices.Clone(b.Pieces), api.Piece{Long: 77})
		b.Pieces = room[:len(room)-1]
		was := slices.Clone(room)
		tangent := frac(rat("3/5"))
		at, _ := echo.At(b, tangent)
		wave, _ := echo.Wave(b, 3, 5)
		leaky, _ := echo.Leaky(b, 0.75, 3, 5)
		disc, _ := echo.Disc(b, 3, 5)
		row, _ := echo.Row(b, 4)
		first := slices.Clone(row)
		clear(row)
		if again, e := echo.At(b, tangent); again != at {
			t.Errorf("%s: At again: %s, %d", name(b), shown(again), e)
		}
		z, e := echo.Wave(b, 3, 5)
		isNumber(t, call("Wave", b, 3, 5), z, e, wave, api.OK)
		z, e = echo.Leaky(b, 0.75, 3, 5)
		isNumber(t, call("Leaky", b, 3, 5), z, e, leaky, api.OK)
		if again, e := echo.Disc(b, 3, 5); !sameDisc(again, disc) {
			t.Errorf("%s: Disc again: %v, %d", name(b), again, e)
		}
		if again, e := echo.Row(b, 4); !slices.Equal(again, first) {
			t.Errorf("%s: Row again: %v, %d", name(b), again, e)
		}
		if !reflect.DeepEqual(room, was) {
			t.Errorf("%s: the pieces are changed", name(b))
		}
	}
}

// P14.1: the near end is not asked; nor is it told how the cells are put together as pieces.
func TestWhatTheEchoHangsOn(t *testing.T) {
	r := rand.New(rand.NewSource(6))
	for range 100 {
		b := anyBore(r)
		var other api.Bore
		for _, p := range b.Pieces {
			for range p.Long {
				other.Pieces = append(other.Pieces, api.Piece{Area: p.Area, Long: 1})
			}
		}
		other.Near, other.Far = 3-b.Near, b.Far
		tangent := frac(anyTangent(r, 2))
		one, oneE := echo.At(b, tangent)
		two, twoE := echo.At(other, tangent)
		if one != two || oneE != twoE {
			t.Errorf("%s and %s: %s, %d and %s, %d", name(b), name(other), shown(one), oneE, shown(two), twoE)
		}
		x, _ := turn.Parts(5, 6)
		z, e := echo.Wave(other, 5, 6)
		isNumber(t, call("Wave", other, 5, 6), z, e, floatEcho(b, x), api.OK)
	}
}

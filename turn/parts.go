package turn

import (
	"diapason/api"
	"diapason/disc"
)

const (
	whole   = 1 << api.MaxTurn // the finest parts of a turn
	quarter = whole / 4
	eighth  = whole / 8
	reach   = 0x1p-44 // no point is farther from its floats
)

// way is how floats come to a point: by the factors of rest, mirrored or not, and by quarters of a turn.
type way struct {
	quarters, rest int
	mirrored       bool
}

// wayTo is the way to the point at k parts of a turn of 2^n.
func wayTo(k, n int) (way, api.Errno) {
	switch {
	case n < 0:
		return way{}, api.ErrArg
	case n > api.MaxTurn:
		return way{}, api.ErrLong
	}
	// The wrap-round takes off whole turns alone.
	at := int((uint64(k) << (api.MaxTurn - n)) % whole)
	w := way{quarters: at / quarter, rest: at % quarter}
	if w.rest > eighth {
		w.rest, w.mirrored = quarter-w.rest, true
	}
	return w, api.OK
}

// Parts is the point at k parts of a turn of 2^n, by floats.
func Parts(k, n int) (complex128, api.Errno) {
	w, e := wayTo(k, n)
	if e != api.OK {
		return 0, e
	}
	return w.point(), api.OK
}

// Disc has the point at k parts of a turn of 2^n.
func Disc(k, n int) (api.Disc, api.Errno) {
	w, e := wayTo(k, n)
	switch {
	case e != api.OK:
		return api.Disc{}, e
	case w.rest == 0:
		return api.Disc{C: w.point()}, api.OK
	}
	return api.Disc{C: w.point(), R: reach}, api.OK
}

// point is where the way leads, by floats.
func (w way) point() complex128 {
	z := w.product()
	if w.mirrored {
		z = complex(imag(z), real(z))
	}
	for range w.quarters {
		z = complex(-imag(z), real(z))
	}
	return complex(unsigned(real(z)), unsigned(imag(z)))
}

// product is the product of the way's factors. It begins with 1, as 1 times the first factor is that factor, to the bit.
func (w way) product() complex128 {
	z := complex128(1)
	for i, p := range parts() {
		if w.rest<<i&eighth != 0 {
			z = disc.Times(z, p)
		}
	}
	return z
}

// unsigned is v, a nought without a sign.
func unsigned(v float64) float64 {
	if v == 0 {
		return 0
	}
	return v
}

// parts are p(3) to p(16), from an eighth of a turn to the finest part. They are written out, as a sound asks for millions of points, and root after root takes longer than all the rest.
func parts() [api.MaxTurn - 2]complex128 {
	return [...]complex128{
		complex(0x1.6a09e667f3bcdp-01, 0x1.6a09e667f3bcdp-01),
		complex(0x1.d906bcf328d46p-01, 0x1.87de2a6aea963p-02),
		complex(0x1.f6297cff75cbp-01, 0x1.8f8b83c69a60bp-03),
		complex(0x1.fd88da3d12526p-01, 0x1.917a6bc29b42cp-04),
		complex(0x1.ff621e3796d7ep-01, 0x1.91f65f10dd814p-05),
		complex(0x1.ffd886084cd0dp-01, 0x1.92155f7a3667ep-06),
		complex(0x1.fff62169b92dbp-01, 0x1.921d1fcdec785p-07),
		complex(0x1.fffd8858e8a92p-01, 0x1.921f0fe670072p-08),
		complex(0x1.ffff621621d02p-01, 0x1.921f8becca4bbp-09),
		complex(0x1.ffffd88586ee6p-01, 0x1.921faaee6472ep-10),
		complex(0x1.fffff62161a34p-01, 0x1.921fb2aecb361p-11),
		complex(0x1.fffffd8858675p-01, 0x1.921fb49ee4ea7p-12),
		complex(0x1.ffffff621619bp-01, 0x1.921fb51aeb57dp-13),
		complex(0x1.ffffffd885867p-01, 0x1.921fb539ecf32p-14),
	}
}

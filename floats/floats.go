// Package floats: binary64 and binary32 as texts, exactly: see ../../shared/DOC.md and doc/02-floats.md.
//
// No sum or product of floats is made here: numbers are taken apart into whole numbers and put together again by their bits.
package floats

import (
	"math"

	"thicket/api"
	"thicket/limbs"
)

// Read is the binary64 nearest to a number's text; the place of the fault, where there is one. Read32, the binary32.
func Read(s string) (float64, api.Errno, int) {
	w, why, at := binary64().read(s)
	return math.Float64frombits(w), why, at
}

func Read32(s string) (float32, api.Errno, int) {
	w, why, at := binary32().read(s)
	return math.Float32frombits(uint32(w)), why, at
}

// Nearest is the binary64 nearest to a quotient.
func Nearest(r api.Ratio) (float64, api.Errno) {
	if limbs.Len(r.Den) == 0 {
		return 0, api.ErrZero
	}
	f := binary64()
	w := f.nearest(r.Num, r.Den)
	if r.Neg && limbs.Len(r.Num) > 0 {
		w |= f.signBit()
	}
	return math.Float64frombits(w), api.OK
}

// Quotient is a finite binary64 as a quotient.
func Quotient(v float64) (api.Ratio, api.Errno) {
	neg, m, e, kind := Parts(v)
	if kind == api.FloatInf || kind == api.FloatNaN {
		return api.Ratio{}, api.ErrNaN
	}
	num, den := scaled(limbs.From(m), limbs.From(1), e)
	return limbs.Over(neg, num, den)
}

// Parts are a binary64's sign, whole mantissa, exponent of two and kind.
func Parts(v float64) (bool, uint64, int, api.FloatKind) {
	return binary64().parts(math.Float64bits(v))
}

// Shortest is the shortest text that reads back; Shortest32, of a binary32; Exact, all decimal digits; Hex, in base sixteen.
func Shortest(v float64) string { return binary64().shortest(math.Float64bits(v)) }

func Shortest32(v float32) string { return binary32().shortest(uint64(math.Float32bits(v))) }

func Exact(v float64) string {
	neg, m, e, kind := Parts(v)
	if s := named(kind); s != "" {
		return signed(neg, kind, s)
	}
	return signed(neg, kind, exactDigits(m, e))
}

func Hex(v float64) string {
	neg, m, e, kind := Parts(v)
	switch kind {
	case api.FloatZero:
		return signed(neg, kind, "0x0p+0")
	case api.FloatInf, api.FloatNaN:
		return signed(neg, kind, named(kind))
	}
	return signed(neg, kind, hexDigits(m, e))
}

package floats

import (
	"thicket/api"
	"thicket/limbs"
)

// format is a binary format: how many bits of the mantissa are kept, the exponent's field of infinities and NaNs, the power of two of the least bit.
type format struct {
	width, top, least int
}

func binary64() format { return format{width: 52, top: 2047, least: -1074} }

func binary32() format { return format{width: 23, top: 255, least: -149} }

func (f format) signBit() uint64 { return uint64(f.top+1) << f.width }

func (f format) infinity() uint64 { return uint64(f.top) << f.width }

func (f format) nan() uint64 { return f.infinity() | 1<<(f.width-1) }

// parts takes the bits w apart, as Parts says it.
func (f format) parts(w uint64) (bool, uint64, int, api.FloatKind) {
	neg := w&f.signBit() != 0
	kept := w & (1<<f.width - 1)
	field := int(w>>f.width) & f.top
	switch {
	case field == f.top && kept == 0:
		return neg, 0, 0, api.FloatInf
	case field == f.top:
		return neg, kept, 0, api.FloatNaN
	case field > 0:
		return neg, 1<<f.width | kept, f.least + field - 1, api.FloatNormal
	case kept > 0:
		return neg, kept, f.least, api.FloatSmall
	}
	return neg, 0, 0, api.FloatZero
}

// bits puts the number m times 2^e together: m has one bit more than are kept, or e is the least; m may also be the power of two above that, as rounding up leaves it.
func (f format) bits(m uint64, e int) uint64 {
	w := m
	if m >= 1<<f.width {
		// A mantissa that is too great by one carries into the field, as it should.
		w += uint64(e-f.least) << f.width
	}
	return min(w, f.infinity())
}

// farBits is further than any number of either format, noughts and infinities apart, is away from 1, in bits.
const farBits = 1100

// nearest is the number nearest to num by den (which is not nought).
func (f format) nearest(num, den []uint32) uint64 {
	away := limbs.Len(num) - limbs.Len(den)
	switch {
	case limbs.Len(num) == 0 || away < -farBits:
		return 0
	case away > farBits:
		return f.infinity()
	}
	// The quotient gets two or three bits more than the mantissa; what lies below them shows in the last one.
	e := max(away-f.width-1, f.least) - 2
	num, den = scaled(num, den, -e)
	q, rest, _ := limbs.DivMod(num, den)
	n, _ := limbs.Small(q)
	if limbs.Len(rest) > 0 {
		n |= 1
	}
	drop := max(limbs.Len(q)-f.width-1, 2)
	return f.bits(withoutBits(n, drop), e+drop)
}

// withoutBits is n by 2^drop, rounded to the nearest, ties to even.
func withoutBits(n uint64, drop int) uint64 {
	kept, rest := n>>drop, n&(1<<drop-1)
	if half := uint64(1) << (drop - 1); rest > half || rest == half && kept%2 == 1 {
		kept++
	}
	return kept
}

// scaled is the quotient num by den times 2^e.
func scaled(num, den []uint32, e int) ([]uint32, []uint32) {
	if e < 0 {
		den, _ = limbs.Up(den, -e)
	} else {
		num, _ = limbs.Up(num, e)
	}
	return num, den
}

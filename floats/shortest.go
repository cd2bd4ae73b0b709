package floats

import (
	"math/bits"
	"strconv"
	"strings"

	"thicket/api"
	"thicket/limbs"
)

// wholeDigits is by how many digits, less one, a number is written as a whole number to look for a shorter one: no binary64 needs more than 17 digits, and 19 fit a uint64.
const wholeDigits = 17

// shortest is the shortest decimal that is read as the number of the bits w.
func (f format) shortest(w uint64) string {
	neg, m, e, kind := f.parts(w)
	if s := named(kind); s != "" {
		return signed(neg, kind, s)
	}
	digits, power := f.fewest(m, e)
	return signed(neg, kind, layOut(strconv.FormatUint(digits, 10), power))
}

// scale turns quarters of a number's last bit into whole numbers of a power of ten.
type scale struct {
	num, den []uint32
}

func newScale(e, tens int) scale {
	num, den := limbs.From(1), limbs.From(1)
	if tens < 0 {
		den, _ = limbs.Pow(limbs.From(10), -tens)
	} else {
		num, _ = limbs.Pow(limbs.From(10), tens)
	}
	num, den = scaled(num, den, e-2)
	return scale{num, den}
}

// of is n by the scale, rounded down, and whether it is just that.
func (s scale) of(n uint64) (uint64, bool) {
	q, rest, _ := limbs.DivMod(limbs.Mul(limbs.From(n), s.num), s.den)
	whole, _ := limbs.Small(q)
	return whole, limbs.Len(rest) == 0
}

// fewest is the decimal, digits and power of ten, that shortest writes of m times 2^e.
func (f format) fewest(m uint64, e int) (uint64, int) {
	// 78913 by 2^18 is the logarithm of two; this is the first digit's place, or one beside it.
	tens := wholeDigits - (bits.Len64(m)+e-1)*78913>>18
	s := newScale(e, tens)
	low, high := f.borders(m, e, s)
	// Of all powers of ten, the greatest one that has a multiple between the borders: all its multiples there have equally many digits, and those of lesser powers more. (Only next to a nought could those be as few; there the nearest one is a multiple of the greatest all the same.)
	unit, power := uint64(1000000000000000000), 18
	for unit > 1 && high/unit*unit < low {
		unit, power = unit/10, power-1
	}
	twice, exact := s.of(8 * m)
	below := twice / 2 / unit
	if goesUp(below, unit, twice-2*below*unit, exact, low, high) {
		below++
	}
	return below, power - tens
}

// goesUp tells whether of two neighbours, below and one more, times unit, the upper one is to be taken: twice is how far the number is from the lower one, two times, rounded down unless it is exact.
func goesUp(below, unit, twice uint64, exact bool, low, high uint64) bool {
	switch {
	case below*unit < low:
		return true
	case (below+1)*unit > high:
		return false
	case twice == unit && exact:
		return below%2 == 1
	}
	return twice >= unit
}

// borders are the least and the greatest whole number that, by the scale, are read as m times 2^e.
func (f format) borders(m uint64, e int, s scale) (uint64, uint64) {
	down := 4*m - 2
	if m == 1<<f.width && e > f.least {
		// The numbers below a power of two lie closer together.
		down++
	}
	low, lowExact := s.of(down)
	high, highExact := s.of(4*m + 2)
	even := m%2 == 0 // then the borders themselves, ties, are read as it
	if !lowExact || !even {
		low++
	}
	if highExact && !even {
		high--
	}
	return low, high
}

// layOut writes digits times a power of ten as ECMAScript does.
func layOut(digits string, power int) string {
	n := len(digits)
	x := n + power
	switch {
	case n <= x && x <= 21:
		return digits + strings.Repeat("0", x-n)
	case 0 < x && x <= 21:
		return digits[:x] + "." + digits[x:]
	case -6 < x && x <= 0:
		return "0." + strings.Repeat("0", -x) + digits
	}
	if n > 1 {
		digits = digits[:1] + "." + digits[1:]
	}
	return digits + "e" + withSign(x-1)
}

// withSign writes a number with + or - ahead.
func withSign(n int) string {
	if n < 0 {
		return strconv.Itoa(n)
	}
	return "+" + strconv.Itoa(n)
}

// named is how a number is written that has no digits but 0; "" of the others.
func named(kind api.FloatKind) string {
	switch kind {
	case api.FloatZero:
		return "0"
	case api.FloatInf:
		return "inf"
	case api.FloatNaN:
		return "nan"
	}
	return ""
}

// signed puts a - ahead of what is negative; a NaN is neither.
func signed(neg bool, kind api.FloatKind, s string) string {
	if neg && kind != api.FloatNaN {
		return "-" + s
	}
	return s
}

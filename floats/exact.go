package floats

import (
	"math/bits"
	"strconv"
	"strings"

	"thicket/limbs"
)

// exactDigits are all decimal digits of m times 2^e, m not 0.
func exactDigits(m uint64, e int) string {
	// Without the noughts at its end the mantissa has a digit behind the point for each power of two below, and the last one is not 0.
	if noughts := min(bits.TrailingZeros64(m), -e); noughts > 0 {
		m, e = m>>noughts, e+noughts
	}
	if e >= 0 {
		whole, _ := limbs.Up(limbs.From(m), e)
		return limbs.Print(whole)
	}
	fives, _ := limbs.Pow(limbs.From(5), -e)
	s := limbs.Print(limbs.Mul(limbs.From(m), fives))
	s = strings.Repeat("0", max(0, 1-e-len(s))) + s
	return s[:len(s)+e] + "." + s[len(s)+e:]
}

// hexDigits are the hexadecimal digits of m times 2^e, m not 0.
func hexDigits(m uint64, e int) string {
	f := binary64()
	s := "0x" + strconv.FormatUint(m>>f.width, 10)
	if kept := m & (1<<f.width - 1); kept != 0 {
		// The bit ahead of them keeps the noughts at their beginning.
		digits := strconv.FormatUint(1<<f.width|kept, 16)[1:]
		s += "." + strings.TrimRight(digits, "0")
	}
	return s + "p" + withSign(e+f.width)
}

package limbs

import (
	"math/bits"

	"thicket/api"
)

// DivMod is quotient and remainder.
func DivMod(a, b []uint32) ([]uint32, []uint32, api.Errno) {
	a, b = trim(a), trim(b)
	if len(b) == 0 {
		return nil, nil, api.ErrZero
	}
	q, r := divide(a, b)
	return q, r, api.OK
}

// divide divides by b, which must not be nought.
func divide(a, b []uint32) ([]uint32, []uint32) {
	switch {
	case compare(a, b) < 0:
		return nil, fresh(a)
	case len(b) == 1:
		q := fresh(a)
		r := divideSmall(q, b[0])
		return trim(q), trim([]uint32{r})
	}
	// With the divisor's highest bit set, a guess from two limbs is at most two too great.
	shift := bits.LeadingZeros32(b[len(b)-1])
	rest := moved(a, shift, len(a)+1)
	by := moved(b, shift, len(b))
	q := make([]uint32, len(a)-len(b)+1)
	for i := range len(q) {
		at := len(q) - 1 - i
		q[at] = divideLimb(rest[at:at+len(b)+1], by)
	}
	return trim(q), lowered(trim(rest), shift)
}

// divideSmall puts the quotient in a's place and answers the remainder.
func divideSmall(a []uint32, by uint32) uint32 {
	rest := uint64(0)
	for i := range len(a) {
		at := len(a) - 1 - i
		rest = rest<<limbBits | uint64(a[at])
		a[at] = uint32(rest / uint64(by))
		rest %= uint64(by)
	}
	return uint32(rest)
}

// divideLimb finds one limb of a quotient and leaves in rest, which has one limb more than by, what remains.
func divideLimb(rest, by []uint32) uint32 {
	n := len(by)
	top := uint64(rest[n])<<limbBits | uint64(rest[n-1])
	lead := uint64(by[n-1])
	guess, left := top/lead, top%lead
estimate:
	for guess > limbMost || guess*uint64(by[n-2]) > left<<limbBits|uint64(rest[n-2]) {
		guess--
		left += lead
		if left > limbMost {
			break estimate
		}
	}
	// Seldom the guess is still one too great; then one of by goes back.
	if takeTimes(rest, by, uint32(guess)) {
		guess--
		rest[n] += addTimes(rest[:n], by, 1)
	}
	return uint32(guess)
}

// takeTimes takes by times f off rest, and tells whether that went below nought.
func takeTimes(rest, by []uint32, f uint32) bool {
	carry := uint64(0)
	for i := range len(by) {
		carry += uint64(by[i]) * uint64(f)
		d := uint64(rest[i]) - carry&limbMost
		rest[i] = uint32(d)
		carry = carry>>limbBits + d>>limbBits&1
	}
	d := uint64(rest[len(by)]) - carry
	rest[len(by)] = uint32(d)
	return d>>limbBits != 0
}

package limbs

import (
	"math/bits"

	"thicket/api"
)

// fewLimbs is up to where limb by limb is quicker than by halves.
const fewLimbs = 40

// Mul is the product; Pow, a power.
func Mul(a, b []uint32) []uint32 { return product(trim(a), trim(b)) }

func Pow(a []uint32, n int) ([]uint32, api.Errno) {
	if n < 0 || n > api.MaxPow {
		return nil, api.ErrRange
	}
	// Divided instead of multiplied: a length times n might not fit an int.
	if n > 0 && Len(a) > api.MaxPow/n {
		return nil, api.ErrMany
	}
	return power(trim(a), n), api.OK
}

func power(a []uint32, n int) []uint32 {
	out := []uint32{1}
	for i := range bits.Len(uint(n)) {
		out = product(out, out)
		if n>>(bits.Len(uint(n))-1-i)&1 == 1 {
			out = product(out, a)
		}
	}
	return out
}

func product(a, b []uint32) []uint32 {
	if len(a) < len(b) {
		a, b = b, a
	}
	switch {
	case len(b) <= fewLimbs:
		return byLimbs(a, b)
	case len(a) >= 2*len(b):
		return byPieces(a, b)
	}
	return byHalves(a, b)
}

// byLimbs multiplies as on paper.
func byLimbs(a, b []uint32) []uint32 {
	out := make([]uint32, len(a)+len(b))
	for i := range len(b) {
		out[i+len(a)] = addTimes(out[i:i+len(a)], a, b[i])
	}
	return trim(out)
}

// addTimes adds a times f into out, which is as long as a, and answers what is carried beyond it.
func addTimes(out, a []uint32, f uint32) uint32 {
	carry := uint64(0)
	for i := range len(a) {
		carry += uint64(out[i]) + uint64(a[i])*uint64(f)
		out[i] = uint32(carry)
		carry >>= limbBits
	}
	return uint32(carry)
}

// byPieces cuts a into pieces as long as b: halving pays only where both are about as long.
func byPieces(a, b []uint32) []uint32 {
	out := make([]uint32, len(a)+len(b))
	for at := 0; at < len(a); at += len(b) {
		piece := a[at:min(at+len(b), len(a))]
		addAt(out, product(trim(piece), b), at)
	}
	return trim(out)
}

// byHalves has three products of halves in the place of four (Karatsuba): the middle one is that of the halves' sums less the two others.
func byHalves(a, b []uint32) []uint32 {
	half := (len(a) + 1) / 2
	lowA, highA := trim(a[:half]), a[half:]
	lowB, highB := trim(b[:half]), b[half:]
	low, high := product(lowA, lowB), product(highA, highB)
	middle := product(sum(lowA, highA), sum(lowB, highB))
	take(middle, low)
	take(middle, high)
	out := make([]uint32, len(a)+len(b))
	copy(out, low)
	copy(out[2*half:], high)
	addAt(out, trim(middle), half)
	return trim(out)
}

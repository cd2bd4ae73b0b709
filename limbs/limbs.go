// Package limbs: naturals and quotients of any size: see ../../shared/DOC.md and doc/01-limbs.md.
//
// The exported calls take any limbs and trim them; the functions below them take right naturals and answer right ones in new memory.
package limbs

import "math/bits"

const (
	limbBits = 32
	limbMost = 1<<limbBits - 1
)

// Norm is a natural without needless limbs; From, that of a number; Small, the number of one, if it is below 2^64.
func Norm(a []uint32) []uint32 { return fresh(trim(a)) }

func From(n uint64) []uint32 {
	return trim([]uint32{uint32(n), uint32(n >> limbBits)})
}

func Small(a []uint32) (uint64, bool) {
	a = trim(a)
	if len(a) > 2 {
		return 0, false
	}
	return low64(a), true
}

// Cmp is -1, 0 or 1; Len is how many bits a natural has; Bit, whether it has that one.
func Cmp(a, b []uint32) int { return compare(trim(a), trim(b)) }

func Len(a []uint32) int {
	a = trim(a)
	if len(a) == 0 {
		return 0
	}
	return (len(a)-1)*limbBits + bits.Len32(a[len(a)-1])
}

func Bit(a []uint32, n int) bool {
	if n < 0 || n/limbBits >= len(a) {
		return false
	}
	return a[n/limbBits]>>(n%limbBits)&1 == 1
}

// trim leaves needless limbs out; it shares a's memory.
func trim(a []uint32) []uint32 {
	n := len(a)
	for n > 0 && a[n-1] == 0 {
		n--
	}
	return a[:n]
}

func fresh(a []uint32) []uint32 {
	out := make([]uint32, len(a))
	copy(out, a)
	return out
}

func low64(a []uint32) uint64 {
	n := uint64(0)
	for i := range min(len(a), 2) {
		n |= uint64(a[i]) << (limbBits * i)
	}
	return n
}

func compare(a, b []uint32) int {
	if len(a) != len(b) {
		return sign(len(a) < len(b))
	}
	for i := range len(a) {
		at := len(a) - 1 - i
		if a[at] != b[at] {
			return sign(a[at] < b[at])
		}
	}
	return 0
}

// sign is -1 of what is less, 1 of what is more.
func sign(less bool) int {
	if less {
		return -1
	}
	return 1
}

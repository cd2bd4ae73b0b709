package limbs

import "thicket/api"

// Add and Sub are sum and difference.
func Add(a, b []uint32) []uint32 { return sum(trim(a), trim(b)) }

func Sub(a, b []uint32) ([]uint32, api.Errno) {
	a, b = trim(a), trim(b)
	if compare(a, b) < 0 {
		return nil, api.ErrLess
	}
	return difference(a, b), api.OK
}

// Up is a natural times 2^n; Down, it by 2^n, rounded down.
func Up(a []uint32, n int) ([]uint32, api.Errno) {
	if n < 0 || n > api.MaxShift {
		return nil, api.ErrRange
	}
	a = trim(a)
	return trim(moved(a, n, len(a)+n/limbBits+1)), api.OK
}

func Down(a []uint32, n int) ([]uint32, api.Errno) {
	if n < 0 || n > api.MaxShift {
		return nil, api.ErrRange
	}
	return lowered(trim(a), n), api.OK
}

func sum(a, b []uint32) []uint32 {
	if len(a) < len(b) {
		a, b = b, a
	}
	out := make([]uint32, len(a)+1)
	copy(out, a)
	addAt(out, b, 0)
	return trim(out)
}

// difference is a - b; b must not be more than a.
func difference(a, b []uint32) []uint32 {
	out := fresh(a)
	take(out, b)
	return trim(out)
}

// addAt adds b, at limbs up, into out, which must have room for the sum.
func addAt(out, b []uint32, at int) {
	carry := uint64(0)
	for i := range len(b) {
		carry += uint64(out[at+i]) + uint64(b[i])
		out[at+i] = uint32(carry)
		carry >>= limbBits
	}
	for i := at + len(b); carry > 0; i++ {
		carry += uint64(out[i])
		out[i] = uint32(carry)
		carry >>= limbBits
	}
}

// take takes b off out, which must not be less.
func take(out, b []uint32) {
	borrow := uint64(0)
	for i := range len(b) {
		d := uint64(out[i]) - uint64(b[i]) - borrow
		out[i] = uint32(d)
		borrow = d >> limbBits & 1
	}
	for i := len(b); borrow > 0; i++ {
		d := uint64(out[i]) - borrow
		out[i] = uint32(d)
		borrow = d >> limbBits & 1
	}
}

// moved is a times 2^n in so many limbs, needless ones kept: a division counts on their number.
func moved(a []uint32, n, limbs int) []uint32 {
	out := make([]uint32, limbs)
	whole, part := n/limbBits, n%limbBits
	carry := uint64(0)
	for i := range len(a) {
		carry |= uint64(a[i]) << part
		out[whole+i] = uint32(carry)
		carry >>= limbBits
	}
	if carry > 0 {
		out[whole+len(a)] = uint32(carry)
	}
	return out
}

// lowered is a by 2^n, rounded down.
func lowered(a []uint32, n int) []uint32 {
	whole, part := n/limbBits, n%limbBits
	if whole >= len(a) {
		return nil
	}
	out := fresh(a[whole:])
	for i := range len(out) {
		pair := uint64(out[i])
		if i+1 < len(out) {
			pair |= uint64(out[i+1]) << limbBits
		}
		out[i] = uint32(pair >> part)
	}
	return trim(out)
}

package bits

import (
	"math/bits"

	"thicket/api"
)

// Runs are the longest runs that are in, rising.
func Runs(a []uint64) []api.Run {
	var l []api.Run
	end := len(a) * width
	for from := seek(a, 0, true); from < end; {
		to := seek(a, from, false)
		l = append(l, api.Run{From: from, To: to})
		from = seek(a, to, true)
	}
	return l
}

// Of is the set of runs.
func Of(n int, l []api.Run) ([]uint64, api.Errno) {
	a, why := Empty(n)
	if why != api.OK {
		return nil, why
	}
	ahead := 0
	for _, r := range l {
		if r.From < ahead || r.From >= r.To || r.To > n {
			return nil, api.ErrBits
		}
		fill(a, r.From, r.To)
		ahead = r.To
	}
	return a, api.OK
}

// Print writes n bits, the lowest first, as 0 and 1.
func Print(a []uint64, n int) (string, api.Errno) {
	words, why := Words(n)
	switch {
	case why != api.OK:
		return "", why
	case len(a) != words:
		return "", api.ErrSize
	case Highest(a) >= n:
		return "", api.ErrBits
	}
	text := make([]byte, n)
	for i := range text {
		text[i] = '0'
		if Has(a, i) {
			text[i] = '1'
		}
	}
	return string(text), api.OK
}

// Read reads them, and tells how many they are; the place of the fault, where there is one.
func Read(s string) ([]uint64, int, api.Errno, int) {
	a, why := Empty(len(s))
	if why != api.OK {
		return nil, 0, why, 0
	}
	for i := range len(s) {
		switch s[i] {
		case '0':
		case '1':
			a[i/width] |= 1 << (i % width)
		default:
			return nil, 0, api.ErrBits, i
		}
	}
	return a, len(s), api.OK, 0
}

// seek is the first bit from i on that is in, or out; how many bits there are, if there is none.
func seek(a []uint64, i int, in bool) int {
	for i < len(a)*width {
		word := a[i/width]
		if !in {
			word = ^word
		}
		if rest := word >> (i % width); rest != 0 {
			return i + bits.TrailingZeros64(rest)
		}
		i = (i/width + 1) * width
	}
	return i
}

// fill puts the bits from from to to - 1 in.
func fill(a []uint64, from, to int) {
	for from < to {
		word := from / width
		end := min(to, (word+1)*width)
		a[word] |= ones(end-from) << (from % width)
		from = end
	}
}

package limbs

import (
	"strings"

	"thicket/api"
)

const (
	chunkDigits = 9 // decimal digits that a limb holds
	chunkPower  = 1000000000
	leafDigits  = 32 * chunkDigits // up to where chunk by chunk is quicker than by halves
)

// Read reads decimal digits; the place of the fault, where there is one. Print writes them.
func Read(s string) ([]uint32, api.Errno, int) {
	if s == "" {
		return nil, api.ErrDigits, 0
	}
	for i, c := range s {
		if c < '0' || c > '9' {
			return nil, api.ErrDigits, i
		}
	}
	return joined(s, powersFor(len(s))), api.OK, 0
}

func Print(a []uint32) string {
	// A bit is worth a little less than 0.30103 digits.
	digits := Len(a)*30103/100000 + 1
	powers := powersFor(digits)
	if len(powers) > 0 {
		digits = leafDigits << len(powers)
	}
	out := make([]byte, digits)
	split(out, trim(a), powers)
	if s := strings.TrimLeft(string(out), "0"); s != "" {
		return s
	}
	return "0"
}

// powersFor are 10^leafDigits, its square, that one's square and so on, as many as halving so many digits takes till at most leafDigits are left.
func powersFor(digits int) [][]uint32 {
	var powers [][]uint32
	for leafDigits<<len(powers) < digits {
		if n := len(powers); n > 0 {
			powers = append(powers, product(powers[n-1], powers[n-1]))
		} else {
			powers = append(powers, power([]uint32{10}, leafDigits))
		}
	}
	return powers
}

// joined reads digits: at most leafDigits, doubled for each power.
func joined(s string, powers [][]uint32) []uint32 {
	if len(powers) == 0 {
		return joinedChunks(s)
	}
	last := len(powers) - 1
	cut := len(s) - leafDigits<<last
	if cut <= 0 {
		return joined(s, powers[:last])
	}
	high, low := joined(s[:cut], powers[:last]), joined(s[cut:], powers[:last])
	return sum(product(high, powers[last]), low)
}

func joinedChunks(s string) []uint32 {
	out := make([]uint32, 0, len(s)/chunkDigits+1)
	chunk, factor := uint32(0), uint32(1)
	for i, c := range s {
		chunk, factor = chunk*10+uint32(c-'0'), factor*10
		if (len(s)-1-i)%chunkDigits == 0 {
			out = pushChunk(out, factor, chunk)
			chunk, factor = 0, 1
		}
	}
	return trim(out)
}

// pushChunk makes a times factor, plus chunk, of a, in its place.
func pushChunk(a []uint32, factor, chunk uint32) []uint32 {
	carry := uint64(chunk)
	for i := range len(a) {
		carry += uint64(a[i]) * uint64(factor)
		a[i] = uint32(carry)
		carry >>= limbBits
	}
	if carry > 0 {
		a = append(a, uint32(carry))
	}
	return a
}

// split fills out with a's digits, noughts ahead; if there are powers, out has leafDigits, doubled for each.
func split(out []byte, a []uint32, powers [][]uint32) {
	if len(powers) == 0 {
		splitChunks(out, a)
		return
	}
	last, half := len(powers)-1, len(out)/2
	high, low := divide(a, powers[last])
	split(out[:half], high, powers[:last])
	split(out[half:], low, powers[:last])
}

func splitChunks(out []byte, a []uint32) {
	a = fresh(a)
	chunk := uint32(0)
	for i := range len(out) {
		if i%chunkDigits == 0 {
			chunk = divideSmall(a, chunkPower)
			a = trim(a)
		}
		out[len(out)-1-i] = byte('0' + chunk%10)
		chunk /= 10
	}
}

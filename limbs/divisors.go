package limbs

// mostFactor bounds a step's factors, so that sums of their products with limbs fit an int64.
const mostFactor = 1 << 30

// Gcd is the greatest common divisor.
func Gcd(a, b []uint32) []uint32 { return divisor(trim(a), trim(b)) }

// divisor is Euclid's way. As long as numbers are great, many of his steps are done at one time, as far as the highest bits tell them (Lehmer).
func divisor(a, b []uint32) []uint32 {
	if compare(a, b) < 0 {
		a, b = b, a
	}
	for len(b) > 2 {
		if s := foresee(a, b); s.known() {
			a, b = s.do(a, b)
		} else {
			_, rest := divide(a, b)
			a, b = b, rest
		}
	}
	if len(b) == 0 {
		return fresh(a)
	}
	_, rest := divide(a, b)
	return From(divisor64(low64(b), low64(rest)))
}

func divisor64(a, b uint64) uint64 {
	for b != 0 {
		a, b = b, a%b
	}
	return a
}

// steps are some steps of Euclid's: a and b come to a ups[0] - b downs[0] and b downs[1] - a ups[1], with all signs turned if odd.
type steps struct {
	ups, downs [2]uint64
	odd        bool
}

// known tells whether at least one step could be foreseen.
func (s steps) known() bool { return s.downs[0] != 0 }

// foresee goes by the highest 62 bits of a and the bits of b at the same places, as long as the lower bits can not change a quotient (Collins' condition).
func foresee(a, b []uint32) steps {
	shift := Len(a) - 62
	x, y := low64(lowered(a, shift)), low64(lowered(b, shift))
	s := steps{odd: true}
	up, down := [3]uint64{0, 1, 0}, [3]uint64{0, 0, 1}
	for y >= down[2] && x-y >= down[1]+down[2] {
		q := x / y
		nextUp, nextDown := up[1]+q*up[2], down[1]+q*down[2]
		if nextDown >= mostFactor {
			break
		}
		x, y = y, x-q*y
		up = [3]uint64{up[1], up[2], nextUp}
		down = [3]uint64{down[1], down[2], nextDown}
		s.odd = !s.odd
	}
	s.ups = [2]uint64{up[0], up[1]}
	s.downs = [2]uint64{down[0], down[1]}
	return s
}

func (s steps) do(a, b []uint32) ([]uint32, []uint32) {
	if s.odd {
		return combined(b, s.downs[0], a, s.ups[0]), combined(a, s.ups[1], b, s.downs[1])
	}
	return combined(a, s.ups[0], b, s.downs[0]), combined(b, s.downs[1], a, s.ups[1])
}

// combined is a f - b g, which must not be below nought.
func combined(a []uint32, f uint64, b []uint32, g uint64) []uint32 {
	out := make([]uint32, max(len(a), len(b)))
	carry := int64(0)
	for i := range len(out) {
		if i < len(a) {
			carry += int64(uint64(a[i]) * f)
		}
		if i < len(b) {
			carry -= int64(uint64(b[i]) * g)
		}
		out[i] = uint32(carry)
		carry >>= limbBits
	}
	return trim(out)
}

package floats

import (
	"math"
	"math/big"
	"math/rand/v2"
	"regexp"
	"strconv"
	"strings"
	"testing"

	"thicket/api"
)

func source() *rand.Rand { return rand.New(rand.NewPCG(3, 4)) }

// someNumbers are binary64 numbers of all sizes: the edges of the format, and many with few bits at either end of the mantissa or just beside a power of two.
func someNumbers(many int) []float64 {
	r := source()
	l := []float64{}
	for _, w := range []uint64{0, 1, 2, 3, 1<<51 - 1, 1 << 51, 1<<52 - 2, 1<<52 - 1, 1 << 52, 1<<52 + 1, 1<<53 - 1, 1 << 53, 2046<<52 - 1, 2046 << 52, 2047<<52 - 2, 2047<<52 - 1, 0x3fb999999999999a, 0x3ff0000000000000} {
		l = append(l, math.Float64frombits(w), -math.Float64frombits(w))
	}
	for i := range many {
		w := r.Uint64()
		switch i % 5 {
		case 1:
			w &= 1<<r.IntN(64) - 1
		case 2:
			w &^= 1<<r.IntN(60) - 1
		case 3:
			w = w&(4095<<52) + uint64(r.IntN(5)) - 2
		case 4:
			w = math.Float64bits(float64(r.IntN(1000000)) / 1000)
		}
		if v := math.Float64frombits(w); v-v == 0 {
			l = append(l, v)
		}
	}
	return l
}

func isBits(v float64, w uint64) bool { return math.Float64bits(v) == w }

func isBits32(v float32, w uint32) bool { return math.Float32bits(v) == w }

func TestReadExamples(t *testing.T) {
	long := strings.Repeat("0", 4000)
	nines := strings.Repeat("9", 4000)
	for s, w := range map[string]uint64{
		"0.1": 0x3fb999999999999a, "-0.0": 1 << 63, "0": 0, "-0": 1 << 63, "00.00e-00": 0, "1e400": 2047 << 52, "-1e400": 4095 << 52, "1e-400": 0, "-1e-400": 1 << 63, "9007199254740993": math.Float64bits(9007199254740992), "9007199254740995": math.Float64bits(9007199254740996), "0x1.8p1": math.Float64bits(3),
		"2.2250738585072011e-308": 0xfffffffffffff, "4.9e-324": 1, "2.4703282292062327e-324": 0, "2.4703282292062328e-324": 1, "179769313486231580793728971405303e276": 0x7fefffffffffffff, "179769313486231580793728971405304e276": 2047 << 52,
		"inf": 2047 << 52, "-inf": 4095 << 52, "1E5": math.Float64bits(1e5), "1e+5": math.Float64bits(1e5), "1e-5": math.Float64bits(1e-5), "-1.25E+01": math.Float64bits(-12.5), "007": math.Float64bits(7),
		"0xAbCdEf.8p-0": math.Float64bits(0xabcdef.8p0), "-0x0p0": 1 << 63, "0x0.000p99999": 0, "0x1p1024": 2047 << 52, "0x1p1023": 0x7fe0 << 48, "0x1p-1074": 1, "0x1p-1075": 0, "-0x1p-1075": 1 << 63, "0x1.0000000000001p-1075": 1, "0x3p-1075": 2, "0x5p-1075": 2, "0x00001p+0004": math.Float64bits(16), "0x1.ep3": math.Float64bits(15), "0x1ep3": math.Float64bits(240),
		"0x1.fffffffffffff8p1023": 2047 << 52, "0x1.fffffffffffff7ffffffffffffffp1023": 0x7fefffffffffffff, "0x1.00000000000008p0": 0x3ff0000000000000, "0x1.00000000000018p0": 0x3ff0000000000002, "0x1.000000000000080000000001p0": 0x3ff0000000000001,
		"1e" + nines: 2047 << 52, "1e-" + nines: 0, "-0e" + nines: 1 << 63, "1e" + long + "5": math.Float64bits(1e5), "0." + long + "1e4001": math.Float64bits(1), "1" + long + "e-4000": math.Float64bits(1), "0x1p" + nines: 2047 << 52, "-0x1p-" + nines: 1 << 63, "0x0." + long + "1p16004": math.Float64bits(1), "0x1" + long + "p-16000": math.Float64bits(1), "0x1" + long + "p-17075": 0, "0x1" + long + "p-17074": 1,
		"0." + long + "1": 0, "1" + long: 2047 << 52, nines + "e-4000": math.Float64bits(1), nines + "e-3692": 0x7fe1ccf385ebc8a0, nines + "e-3691": 2047 << 52,
	} {
		if v, why, at := Read(s); !isBits(v, w) || why != api.OK || at != 0 {
			t.Errorf("P2.1: Read(%.40s) = %x, %d, %d; not %x", s, math.Float64bits(v), why, at, w)
		}
	}
	if v, why, at := Read("nan"); v == v || why != api.OK || at != 0 {
		t.Error("P2.1: Read(nan)", v, why, at)
	}
}

func TestReadLong(t *testing.T) {
	for _, s := range []string{strings.Repeat("1", api.MaxNumber+1), strings.Repeat("x", api.MaxNumber+1), strings.Repeat(" ", 1<<20), "0." + strings.Repeat("0", api.MaxNumber-1)} {
		v, why, at := Read(s)
		v32, why32, at32 := Read32(s)
		if !isBits(v, 0) || why != api.ErrLong || at != 0 || !isBits32(v32, 0) || why32 != api.ErrLong || at32 != 0 {
			t.Errorf("P2.1: Read of %d bytes: %v, %d, %d; %v, %d, %d", len(s), v, why, at, v32, why32, at32)
		}
	}
	for _, s := range []string{"0." + strings.Repeat("3", api.MaxNumber-2), "0x0." + strings.Repeat("5", api.MaxNumber-6) + "p0"} {
		if v, why, _ := Read(s); !isBits(v, 0x3fd5555555555555) || why != api.OK || len(s) != api.MaxNumber {
			t.Errorf("P2.1: Read of %d bytes: %v, %d", len(s), v, why)
		}
	}
	if v, why, at := Read(strings.Repeat("7", api.MaxNumber-1) + "x"); !isBits(v, 0) || why != api.ErrFloat || at != api.MaxNumber-1 {
		t.Error("P2.1: a fault at the last byte", v, why, at)
	}
}

const textPattern = `^(nan|-?inf|-?[0-9]+(\.[0-9]+)?([eE][+-]?[0-9]+)?|-?0x[0-9a-fA-F]+(\.[0-9a-fA-F]+)?p[+-]?[0-9]+)$`

// places tells where a text's fault is by a pattern alone: each beginning of a number's text goes on with one of these ends.
func places(pattern *regexp.Regexp, s string) (int, bool) {
	ends := []string{"", "0", "p0", "0p0", "nan", "an", "n", "nf", "f"}
	for n := range len(s) {
		goes := false
		for _, end := range ends {
			goes = goes || pattern.MatchString(s[:n+1]+end)
		}
		if !goes {
			return n, false
		}
	}
	if pattern.MatchString(s) {
		return 0, true
	}
	return len(s), false
}

func TestReadPlaces(t *testing.T) {
	for s, place := range map[string]int{
		"": 0, "0x.8p1": 2, "+1": 0, "1.": 2, "1e": 2, "nan0": 3, "-nan": 1, "0x1": 3, "-": 1, "--1": 1, " 1": 0, "1 ": 1, ".5": 0, "-.5": 1, "1.e5": 2, "1e+": 3, "1e+-5": 3, "1e5.": 3, "1.2.3": 3, "0x": 2, "0X1p1": 1, "00x1p1": 2, "0x1P1": 3, "0x1.p1": 4, "0x1p": 4, "0x1p+": 5, "0x1pa": 4, "0xg": 2, "-0x": 3, "1f": 1, "1_0": 1, "n": 1, "na": 2, "Nan": 0, "in": 2, "INF": 0, "infinity": 3, "-in": 3, "-inf0": 4, "+inf": 0, "1é": 1, "é": 0, "1\xff": 1, "\xff": 0, "1\x00": 1, "١": 0, "1e５": 2, "1p5": 1,
	} {
		v, why, at := Read(s)
		v32, why32, at32 := Read32(s)
		if !isBits(v, 0) || why != api.ErrFloat || at != place {
			t.Errorf("P2.1: Read(%q) = %v, %d, %d", s, v, why, at)
		}
		if !isBits32(v32, 0) || why32 != api.ErrFloat || at32 != place {
			t.Errorf("P2.1: Read32(%q) = %v, %d, %d", s, v32, why32, at32)
		}
	}
	pattern := regexp.MustCompile(textPattern)
	r := source()
	letters := []string{"-", "+", "0", "0", "1", "9", ".", "e", "E", "x", "0x", "p", "a", "F", "n", "nan", "inf", "i", " ", "é"}
	for range 60000 {
		s := ""
		for range 1 + r.IntN(8) {
			s += letters[r.IntN(len(letters))]
		}
		_, why, at := Read(s)
		if place, ok := places(pattern, s); at != place || ok != (why == api.OK) || !ok && why != api.ErrFloat {
			t.Fatalf("P2.1: Read(%q): %d at %d, not at %d", s, why, at, place)
		}
	}
}

// randomText is a decimal or hexadecimal text.
func randomText(r *rand.Rand) string {
	digits := func(set string, n int) string {
		s := ""
		for range 1 + r.IntN(n) {
			s += string(set[r.IntN(len(set))])
		}
		return s
	}
	set, power := "0123456789", "e"+strconv.Itoa(r.IntN(700)-350)
	s := digits(set, 20)
	if r.IntN(3) == 0 {
		set, power = "0123456789abcdefABCDEF", "p"+strconv.Itoa(r.IntN(2300)-1150)
		s = "0x" + digits(set, 20)
	}
	if r.IntN(2) == 0 {
		s += "." + digits(set, 1+r.IntN(30))
	}
	if r.IntN(3) == 0 {
		s = "-" + s
	}
	return s + power
}

func TestReadAsOthersDo(t *testing.T) {
	r := source()
	for range 60000 {
		s := randomText(r)
		want, _ := strconv.ParseFloat(s, 64)
		if got, why, at := Read(s); !isBits(got, math.Float64bits(want)) || why != api.OK || at != 0 {
			t.Fatalf("P2.1: Read(%s) = %v, %d, %d", s, got, why, at)
		}
		want32, _ := strconv.ParseFloat(s, 32)
		if got, why, at := Read32(s); !isBits32(got, math.Float32bits(float32(want32))) || why != api.OK || at != 0 {
			t.Fatalf("P2.1: Read32(%s) = %v, %d, %d", s, got, why, at)
		}
	}
}

// exactText writes a number whose denominator is a power of two in full.
func exactText(x *big.Rat) string {
	return strings.TrimSuffix(strings.TrimRight(x.FloatString(1200), "0"), ".")
}

func TestReadTies(t *testing.T) {
	tiny := new(big.Rat).SetFrac(big.NewInt(1), new(big.Int).Lsh(big.NewInt(1), 1180))
	for _, v := range someNumbers(1500) {
		w := math.Float64bits(v) &^ (1 << 63)
		low, high := new(big.Rat), new(big.Rat)
		low.SetFloat64(math.Float64frombits(w))
		if w+1 < 2047<<52 {
			high.SetFloat64(math.Float64frombits(w + 1))
		} else {
			high.SetInt(new(big.Int).Lsh(big.NewInt(1), 1024))
		}
		middle := new(big.Rat).Add(low, high)
		middle.Mul(middle, big.NewRat(1, 2))
		for _, c := range []struct {
			x    *big.Rat
			want uint64
		}{
			{middle, w + w&1}, {new(big.Rat).Add(middle, tiny), w + 1}, {new(big.Rat).Sub(middle, tiny), w},
		} {
			s := exactText(c.x)
			if got, why, _ := Read(s); !isBits(got, c.want) || why != api.OK {
				t.Fatalf("P2.1: Read(%s) = %x, not %x", s, math.Float64bits(got), c.want)
			}
			if got, why, _ := Read("-" + s); !isBits(got, 1<<63|c.want) || why != api.OK {
				t.Fatalf("P2.1: Read(-%s) = %x", s, math.Float64bits(got))
			}
		}
	}
}

func TestRead32Ties(t *testing.T) {
	for s, w := range map[string]uint32{
		"0.1": 0x3dcccccd, "-0": 1 << 31, "inf": 255 << 23, "-inf": 511 << 23, "16777217": 0x4b800000, "16777219": 0x4b800002, "16777217.0000000000000000000001": 0x4b800001,
		"0x1p128": 255 << 23, "0x1.ffffffp127": 255 << 23, "0x1.fffffefp127": 0x7f7fffff, "0x1.fffffeffffffffffffffffffp127": 0x7f7fffff, "340282356779733661637539395458142568447": 0x7f7fffff, "340282356779733661637539395458142568448": 255 << 23,
		"0x1p-149": 1, "0x1p-150": 0, "-0x1p-150": 1 << 31, "0x1.000000000000000001p-150": 1, "0x3p-150": 2, "0x5p-150": 2, "0x0.fffffcp-126": 0x7ffffe, "0x0.fffffep-126": 0x7fffff, "0x0.ffffffp-126": 0x800000, "1e39": 255 << 23, "1e-46": 0, "1e-1000000": 0,
		// Rounded to binary64 first, these would be ties.
		"0x1.000001000000000001p0": 0x3f800001, "0x1.000000fffffffffffffp0": 0x3f800000,
	} {
		if v, why, at := Read32(s); !isBits32(v, w) || why != api.OK || at != 0 {
			t.Errorf("P2.1: Read32(%s) = %x, %d, %d; not %x", s, math.Float32bits(v), why, at, w)
		}
	}
	if v, why, at := Read32("nan"); v == v || why != api.OK || at != 0 {
		t.Error("P2.1: Read32(nan)", v, why, at)
	}
}

func TestReadMonotone(t *testing.T) {
	r := source()
	for range 20000 {
		s, u := randomText(r), randomText(r)
		x, okX := new(big.Rat).SetString(s)
		y, okY := new(big.Rat).SetString(u)
		if !okX || !okY {
			t.Fatalf("no numbers: %s, %s", s, u)
		}
		if x.Cmp(y) < 0 {
			s, u = u, s
		}
		high, _, _ := Read(s)
		low, _, _ := Read(u)
		if high < low {
			t.Fatalf("P2.8: Read(%s) is less than Read(%s)", s, u)
		}
	}
	// One digit more at a time, around a border between two numbers.
	last := math.Inf(-1)
	for i := range 100000 {
		v, _, _ := Read("9007199254740992." + strconv.Itoa(100000 + i)[1:])
		if v < last {
			t.Fatal("P2.8: a step down at", i)
		}
		last = v
	}
}

func TestReadOneValue(t *testing.T) {
	r := source()
	for range 5000 {
		digits := strconv.FormatUint(r.Uint64()>>r.IntN(60), 10)
		power := r.IntN(660) - 330
		want, _, _ := Read(digits + "e" + strconv.Itoa(power))
		for cut := 1; cut < len(digits); cut++ {
			s := strings.Repeat("0", r.IntN(4)) + digits[:cut] + "." + digits[cut:] + strings.Repeat("0", r.IntN(4)) + "e" + strconv.Itoa(power+len(digits)-cut)
			if v, why, _ := Read(s); !isBits(v, math.Float64bits(want)) || why != api.OK {
				t.Fatalf("P2.9: Read(%s) = %v, not %v", s, v, want)
			}
		}
		for _, n := range []int{1, 30, 700} {
			noughts := strings.Repeat("0", n)
			for _, s := range []string{digits + noughts + "e" + strconv.Itoa(power-n), "0." + noughts + digits + "e" + strconv.Itoa(power+n+len(digits))} {
				if v, why, _ := Read(s); !isBits(v, math.Float64bits(want)) || why != api.OK {
					t.Fatalf("P2.9: Read(%s) = %v, not %v", s, v, want)
				}
			}
		}
	}
}

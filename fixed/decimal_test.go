package fixed

import (
	"math"
	"math/big"
	"math/rand/v2"
	"regexp"
	"strconv"
	"strings"
	"testing"

	"thicket/api"
)

func source() *rand.Rand { return rand.New(rand.NewPCG(7, 8)) }

// someNumbers are fixed numbers of all sizes: the edges, and many with few digits at either end.
func someNumbers(many int) []int64 {
	r := source()
	l := []int64{0, 1, -1, 9, 10, 999999, 1000000, 1000001, -999999, -1000000, -1000001, 1 << 52, 1<<53 + 1, 1 << 62, -1 << 62, math.MaxInt64, math.MaxInt64 - 1, math.MinInt64, math.MinInt64 + 1}
	for i := range many {
		v := int64(r.Uint64()) >> r.IntN(64)
		switch i % 4 {
		case 1:
			v -= v % 1000000
		case 2:
			v -= v % 1000
		case 3:
			v = []int64{math.MaxInt64, math.MinInt64, 0}[r.IntN(3)] + int64(r.IntN(7)) - 3
		}
		l = append(l, v)
	}
	return l
}

// nearestWhole is a fraction, rounded to a whole number, ties to even, if that is an int64.
func nearestWhole(f *big.Rat) (int64, api.Errno) {
	// Twice the fraction and one, by two: where that is whole, the fraction was a tie.
	doubled := new(big.Rat).Add(new(big.Rat).Add(f, f), big.NewRat(1, 1))
	q, rest := new(big.Int).DivMod(doubled.Num(), new(big.Int).Lsh(doubled.Denom(), 1), new(big.Int))
	if rest.Sign() == 0 && q.Bit(0) == 1 {
		q.Sub(q, big.NewInt(1))
	}
	if !q.IsInt64() {
		return 0, api.ErrBig
	}
	return q.Int64(), api.OK
}

func millionths(f *big.Rat) (int64, api.Errno) {
	return nearestWhole(new(big.Rat).Mul(f, big.NewRat(api.Unit, 1)))
}

type reading struct {
	v   int64
	why api.Errno
	at  int
}

func readOf(s string) reading {
	v, why, at := Read(s)
	return reading{v, why, at}
}

func roundedOf(s string) reading {
	v, why, at := Rounded(s)
	return reading{v, why, at}
}

func right(v int64) reading { return reading{v: v} }

func wrong(at int) reading { return reading{why: api.ErrFixed, at: at} }

func tooBig() reading { return reading{why: api.ErrBig} }

func TestReadExamples(t *testing.T) {
	for s, want := range map[string]reading{
		"1.5": right(1500000), "-0.000001": right(-1), "007": right(7000000), "-0": right(0), "0": right(0), "-0.000000": right(0), "-00.50": right(-500000), "1.000000": right(1000000), "0.123456": right(123456), "12": right(12000000),
		"9223372036854.775807": right(math.MaxInt64), "-9223372036854.775808": right(math.MinInt64), "-9223372036854.775807": right(math.MinInt64 + 1), "0000000000000000000000009223372036854.775807": right(math.MaxInt64), "9223372036854": right(9223372036854000000),
		"9223372036854.775808": tooBig(), "-9223372036854.775809": tooBig(), "9223372036855": tooBig(), "-9223372036855": tooBig(), "9999999999999.999999": tooBig(), "10000000000000": tooBig(), "18446744073709.551616": tooBig(), "18446744073709.551617": tooBig(), "-18446744073709.551616": tooBig(), "340282366920938463463374607431768.211457": tooBig(), strings.Repeat("9", api.MaxNumber): tooBig(), "-" + strings.Repeat("9", 4000) + ".5": tooBig(),
		strings.Repeat("0", api.MaxNumber-1) + "7": right(7000000), strings.Repeat("0", api.MaxNumber): right(0), "-" + strings.Repeat("0", api.MaxNumber-3) + ".1": right(-100000),
	} {
		if got := readOf(s); got != want {
			t.Errorf("P4.1: Read(%.60q) = %v, not %v", s, got, want)
		}
	}
}

func TestReadFaults(t *testing.T) {
	for s, place := range map[string]int{
		"": 0, "1.": 2, "1.0000000": 8, "1.1234567": 8, "1.123456x": 8, "-1.0000000": 9, ".5": 0, "-": 1, "-.5": 1, "--1": 1, "+1": 0, " 1": 0, "1 ": 1, "1e5": 1, "1E5": 1, "1.e5": 2, "1.5e0": 3, "1..5": 2, "1.-5": 2, "1.5.": 3, "1-": 1, "nan": 0, "inf": 0, "-inf": 1, "0x1": 1, "1_000": 1, "1,5": 1, "1\x00": 1, "\xff": 0, "1.\xff": 2, "١": 0, "1.5\n": 3, "é": 0, "99999999999999999999x": 20, "1/2": 1, "1:": 1,
		strings.Repeat("1", api.MaxNumber-1) + "x": api.MaxNumber - 1, strings.Repeat("1", api.MaxNumber-1) + ".": api.MaxNumber,
	} {
		if got := readOf(s); got != wrong(place) {
			t.Errorf("P4.1: Read(%.60q) = %v", s, got)
		}
	}
}

func TestReadLong(t *testing.T) {
	for _, s := range []string{strings.Repeat("0", api.MaxNumber+1), strings.Repeat("x", api.MaxNumber+1), strings.Repeat("9", 1<<20)} {
		if got, rounded := readOf(s), roundedOf(s); got != (reading{why: api.ErrLong}) || rounded != got {
			t.Errorf("P4.1: %d bytes: %v, %v", len(s), got, rounded)
		}
	}
}

func TestRoundedExamples(t *testing.T) {
	long := strings.Repeat("0", 4000)
	nines := strings.Repeat("9", 4000)
	for s, want := range map[string]reading{
		"0.0000005": right(0), "0.0000015": right(2), "15e-1": right(1500000), "1e99999999999": tooBig(), "-1e99999999999": tooBig(), "0e99999999999": right(0), "-0.00e99999999999": right(0), "-1e-99999999999": right(0), "1e-99999999999": right(0),
		"-0.0000005": right(0), "-0.0000015": right(-2), "0.0000025": right(2), "0.0000035": right(4), "0.00000050000000000000000000001": right(1), "-0.00000050000000000000000000001": right(-1), "0.0000004999999999999999999999": right(0), "0.00000150000": right(2), "0.00000250000": right(2), "0.0000009": right(1), "0.9999995": right(1000000), "0.9999994": right(999999), "0.9999985": right(999998), "0.05e-5": right(0), "0.06e-5": right(1), "5e-7": right(0), "6e-7": right(1), "9e-8": right(0), "99e-8": right(1), "15e-7": right(2), "1E1": right(10000000), "1e+1": right(10000000), "1e01": right(10000000), "-1.5E-03": right(-1500), "00.10e1": right(1000000), "1e0": right(1000000), "1e-6": right(1), "1e12": right(1000000000000000000), "1e13": tooBig(), "0.9e13": right(9000000000000000000),
		"9223372036854.7758074": right(math.MaxInt64), "9223372036854.7758075": tooBig(), "9223372036854.775807499999999": right(math.MaxInt64), "9223372036854.7758065": right(math.MaxInt64 - 1), "-9223372036854.7758085": right(math.MinInt64), "-9223372036854.77580850": right(math.MinInt64), "-9223372036854.77580850001": tooBig(), "-9223372036854.7758086": tooBig(), "-9223372036854.7758084": right(math.MinInt64), "-9223372036854.7758075": right(math.MinInt64), "9223372036854775807e-6": right(math.MaxInt64), "9223372036854775808e-6": tooBig(), "-9223372036854775808e-6": right(math.MinInt64), "18446744073709551616e-6": tooBig(), "9999999999999999999e-6": tooBig(), "9999999999999.9999999": tooBig(), "0.9223372036854775807e13": right(math.MaxInt64),
		"0." + long + "1e4001": right(1000000), "1" + long + "e-4000": right(1000000), nines + "e-4000": right(1000000), nines + "e-4007": right(0), nines + "e-4006": right(1), "1e" + long + "1": right(10000000), "1e-" + nines: right(0), "1e" + nines: tooBig(), "0." + long + "1": right(0), "1" + long: tooBig(), long + "." + "5": right(500000), "0.0000005" + long + "1": right(1), "0.0000005" + long: right(0), "1e4000": tooBig(), "0e4000": right(0),
	} {
		if got := roundedOf(s); got != want {
			t.Errorf("P4.1: Rounded(%.60q) = %v, not %v", s, got, want)
		}
	}
	for s, place := range map[string]int{
		"nan": 0, "0x1p1": 1, "-inf": 1, "inf": 0, "": 0, "-": 1, "-0x1p1": 2, "1.": 2, ".5": 0, "1e": 2, "1e+": 3, "1e-": 3, "1e+-1": 3, "1e1.5": 3, "1e5e": 3, "1.e5": 2, "1.5x": 3, "+1": 0, " 1": 0, "1 ": 1, "e5": 0, "-e5": 1, "1ee": 2, "1e 5": 2, "1p5": 1, "1é": 1, "1e\xff": 2, "1.0000000x": 9, "--1": 1, "1_0": 1, "1e1_0": 3, "n": 0, "-nan": 1, "1e99999999999x": 13,
	} {
		if got := roundedOf(s); got != wrong(place) {
			t.Errorf("P4.1: Rounded(%.60q) = %v", s, got)
		}
	}
}

// place tells by a pattern alone where no text goes on: each beginning of one is one, or becomes one by a nought.
func place(pattern *regexp.Regexp, s string) (int, bool) {
	for n := range len(s) {
		if begin := s[:n+1]; !pattern.MatchString(begin) && !pattern.MatchString(begin+"0") {
			return n, false
		}
	}
	return len(s), pattern.MatchString(s)
}

// byFraction is what is asked of a text, by a pattern and another's fractions.
func byFraction(pattern *regexp.Regexp, s string) reading {
	at, ok := place(pattern, s)
	if !ok {
		return wrong(at)
	}
	f, _ := new(big.Rat).SetString(s)
	v, why := millionths(f)
	return reading{v: v, why: why}
}

func TestReadAndRoundedOfAnyTexts(t *testing.T) {
	fixedText := regexp.MustCompile(`^-?[0-9]+(\.[0-9]{1,6})?$`)
	anyText := regexp.MustCompile(`^-?[0-9]+(\.[0-9]+)?([eE][+-]?[0-9]+)?$`)
	r := source()
	try := func(s string) {
		got, rounded := readOf(s), roundedOf(s)
		if want := byFraction(fixedText, s); got != want {
			t.Fatalf("P4.1: Read(%q) = %v, not %v", s, got, want)
		}
		if want := byFraction(anyText, s); rounded != want {
			t.Fatalf("P4.1: Rounded(%q) = %v, not %v", s, rounded, want)
		}
		if got.why != api.ErrFixed && rounded != got {
			t.Fatalf("P4.7: Read(%q) = %v, Rounded %v", s, got, rounded)
		}
	}
	pieces := []string{"0", "5", "9", "1", ".", "-", "e", "E-", "+", "00000", "775807", "9223372036854", "x", "5000", "49", "e-7"}
	for range 50000 {
		var b strings.Builder
		for range r.IntN(8) {
			b.WriteString(pieces[r.IntN(len(pieces))])
		}
		if s := b.String(); len(s) < 4 || !strings.ContainsAny(s[:len(s)-3], "eE") {
			try(s) // other powers would take others too long
		}
	}
	for _, v := range someNumbers(5000) {
		s := strconv.FormatInt(v, 10)
		for _, end := range []string{"e-6", "5e-7", "50e-8", "51e-8", "49e-8", "e-7", "e-12", ".5e-6", ".25E-06", "e-18", "e-19", "e-20"} {
			try(s + end)
		}
	}
}

func TestPrintExamples(t *testing.T) {
	for v, want := range map[int64]string{
		1500000: "1.5", -1: "-0.000001", 0: "0", math.MinInt64: "-9223372036854.775808", math.MaxInt64: "9223372036854.775807", 10: "0.00001", 1000000: "1", -1000000: "-1", 10000000: "10", 1: "0.000001", 100000: "0.1", -1234567: "-1.234567", 1000001: "1.000001", 120000: "0.12", 999999: "0.999999", -2250000: "-2.25",
	} {
		if s := Print(v); s != want {
			t.Errorf("P4.2: Print(%d) = %q", v, s)
		}
	}
}

func TestPrintOfAnyNumbers(t *testing.T) {
	form := regexp.MustCompile(`^(0|-?[1-9][0-9]*|-?(0|[1-9][0-9]*)\.[0-9]{0,5}[1-9])$`)
	for _, v := range someNumbers(50000) {
		s := Print(v)
		if !form.MatchString(s) {
			t.Fatalf("P4.2: Print(%d) = %q", v, s)
		}
		if got := readOf(s); got != right(v) {
			t.Fatalf("P4.7: Read(Print(%d)) = %v", v, got)
		}
		for _, other := range []string{"0" + s, s + "0", s + ".0", strings.Replace(s, "-", "-00", 1)} {
			if got := readOf(other); got.why == api.OK && got.v == v && (Print(got.v) != s || len(other) < len(s)) {
				t.Fatalf("P4.7: Print(Read(%q)) = %q", other, Print(got.v))
			}
		}
	}
}

package floats

import (
	"math"
	"math/big"
	"slices"
	"strconv"
	"strings"
	"testing"

	"thicket/api"
	"thicket/limbs"
)

// toRat is what a quotient says, by another's arithmetic.
func toRat(r api.Ratio) *big.Rat {
	natural := func(a []uint32) *big.Int {
		n := new(big.Int)
		for i := range len(a) {
			n.Lsh(n, 32).Or(n, big.NewInt(int64(a[len(a)-1-i])))
		}
		return n
	}
	x := new(big.Rat).SetFrac(natural(r.Num), natural(r.Den))
	if r.Neg {
		x.Neg(x)
	}
	return x
}

func TestNearest(t *testing.T) {
	r := source()
	some := func(n int) []uint32 {
		a := make([]uint32, 1+r.IntN(n))
		for i := range a {
			a[i] = r.Uint32() >> r.IntN(32)
		}
		return append(a, 0)
	}
	for i := range 20000 {
		q := api.Ratio{Neg: r.IntN(2) == 0, Num: some(1 + i%36), Den: some(1 + i%35)}
		if limbs.Len(q.Den) == 0 || limbs.Len(q.Num) == 0 {
			continue
		}
		want, _ := toRat(q).Float64()
		if got, why := Nearest(q); !isBits(got, math.Float64bits(want)) || why != api.OK {
			t.Fatalf("P2.2: Nearest(%v) = %v, %d; not %v", q, got, why, want)
		}
	}
	huge := slices.Repeat([]uint32{1<<32 - 1}, 1<<16)
	for name, c := range map[string]struct {
		r api.Ratio
		w uint64
	}{
		"1/3":                      {api.Ratio{Num: []uint32{1}, Den: []uint32{3}}, 0x3fd5555555555555},
		"-2/6":                     {api.Ratio{Neg: true, Num: []uint32{2}, Den: []uint32{6, 0}}, 0xbfd5555555555555},
		"a nought":                 {api.Ratio{Den: []uint32{3}}, 0},
		"a nought with a sign":     {api.Ratio{Neg: true, Num: []uint32{0, 0}, Den: []uint32{3}}, 0},
		"a huge one":               {api.Ratio{Num: huge, Den: []uint32{3}}, 2047 << 52},
		"a huge one below nought":  {api.Ratio{Neg: true, Num: huge, Den: []uint32{3}}, 4095 << 52},
		"by a huge one":            {api.Ratio{Num: []uint32{3}, Den: huge}, 0},
		"below nought, by a huge":  {api.Ratio{Neg: true, Num: []uint32{3}, Den: huge}, 1 << 63},
		"two huge ones":            {api.Ratio{Num: huge, Den: huge}, 0x3ff0000000000000},
		"a huge one by a half one": {api.Ratio{Num: huge, Den: huge[:1<<16-1]}, 0x41f0000000000000},
	} {
		if got, why := Nearest(c.r); !isBits(got, c.w) || why != api.OK {
			t.Errorf("P2.2: Nearest of %s = %v, %d", name, got, why)
		}
	}
	for _, bad := range []api.Ratio{{}, {Neg: true, Num: []uint32{1}}, {Num: []uint32{1}, Den: []uint32{0, 0}}} {
		if got, why := Nearest(bad); !isBits(got, 0) || why != api.ErrZero {
			t.Errorf("P2.2: Nearest(%v) = %v, %d", bad, got, why)
		}
	}
}

func TestQuotient(t *testing.T) {
	for _, v := range someNumbers(5000) {
		got, why := Quotient(v)
		want := new(big.Rat).SetInt64(0)
		want.SetFloat64(v)
		right, _ := limbs.Over(got.Neg, got.Num, got.Den)
		if why != api.OK || toRat(got).Cmp(want) != 0 || right.Neg != got.Neg || !slices.Equal(right.Num, got.Num) || !slices.Equal(right.Den, got.Den) {
			t.Fatalf("P2.2: Quotient(%v) = %v, %d", v, got, why)
		}
		if back, why := Nearest(got); why != api.OK || v != 0 && !isBits(back, math.Float64bits(v)) || v == 0 && !isBits(back, 0) {
			t.Fatalf("P2.7: Nearest(Quotient(%v)) = %v", v, back)
		}
	}
	for _, v := range []float64{0, math.Copysign(0, -1)} {
		if got, why := Quotient(v); got.Neg || len(got.Num) > 0 || !slices.Equal(got.Den, []uint32{1}) || why != api.OK {
			t.Errorf("P2.2: Quotient(%v) = %v, %d", v, got, why)
		}
	}
	for _, v := range []float64{math.NaN(), math.Inf(1), math.Inf(-1)} {
		if got, why := Quotient(v); got.Neg || got.Num != nil || got.Den != nil || why != api.ErrNaN {
			t.Errorf("P2.2: Quotient(%v) = %v, %d", v, got, why)
		}
	}
	a, _ := Quotient(1)
	b, _ := Quotient(1)
	a.Num[0], a.Den[0] = 5, 7
	if b.Num[0] != 1 || b.Den[0] != 1 {
		t.Error("Words: Quotient's answers share memory")
	}
}

func TestParts(t *testing.T) {
	for _, c := range []struct {
		w    uint64
		m    uint64
		e    int
		kind api.FloatKind
	}{
		{0, 0, 0, api.FloatZero}, {1, 1, -1074, api.FloatSmall}, {1<<52 - 1, 1<<52 - 1, -1074, api.FloatSmall}, {1 << 52, 1 << 52, -1074, api.FloatNormal}, {2<<52 - 1, 1<<53 - 1, -1074, api.FloatNormal}, {2 << 52, 1 << 52, -1073, api.FloatNormal},
		{math.Float64bits(1), 1 << 52, -52, api.FloatNormal}, {2047<<52 - 1, 1<<53 - 1, 971, api.FloatNormal}, {2047 << 52, 0, 0, api.FloatInf},
	} {
		for _, sign := range []uint64{0, 1 << 63} {
			neg, m, e, kind := Parts(math.Float64frombits(c.w | sign))
			if neg != (sign != 0) || m != c.m || e != c.e || kind != c.kind {
				t.Errorf("P2.3: Parts of %x = %v, %x, %d, %d", c.w|sign, neg, m, e, kind)
			}
		}
	}
	if _, _, _, kind := Parts(math.NaN()); kind != api.FloatNaN {
		t.Error("P2.3: Parts of a NaN")
	}
}

// width is what the tests of Shortest ask of binary64 or binary32.
type width struct {
	write func(w uint64) string
	reads func(s string, w uint64) bool
	value func(w uint64) *big.Rat
}

func widths() map[string]width {
	return map[string]width{
		"Shortest": {
			func(w uint64) string { return Shortest(math.Float64frombits(w)) },
			func(s string, w uint64) bool {
				v, why, _ := Read(s)
				return isBits(v, w) && why == api.OK
			},
			func(w uint64) *big.Rat { return new(big.Rat).SetFloat64(math.Float64frombits(w)) },
		},
		"Shortest32": {
			func(w uint64) string { return Shortest32(math.Float32frombits(uint32(w))) },
			func(s string, w uint64) bool {
				v, why, _ := Read32(s)
				return isBits32(v, uint32(w)) && why == api.OK
			},
			func(w uint64) *big.Rat { return new(big.Rat).SetFloat64(float64(math.Float32frombits(uint32(w)))) },
		},
	}
}

// takeApart is a written decimal's digits, without noughts at either end, and its power of ten.
func takeApart(s string) (*big.Int, int) {
	mantissa, power, _ := strings.Cut(s, "e")
	k, _ := strconv.Atoi(power)
	whole, part, _ := strings.Cut(mantissa, ".")
	k -= len(part)
	digits := whole + part
	short := strings.TrimRight(digits, "0")
	k += len(digits) - len(short)
	d, _ := new(big.Int).SetString(short, 10)
	return d, k
}

func decimal(d *big.Int, k int) *big.Rat {
	ten := new(big.Int).Exp(big.NewInt(10), big.NewInt(int64(max(k, -k))), nil)
	if k < 0 {
		return new(big.Rat).SetFrac(d, ten)
	}
	return new(big.Rat).SetInt(ten.Mul(ten, d))
}

// neighbours are the two decimals next to x, at both sides, with digits from the power k on.
func neighbours(x *big.Rat, k int) []*big.Int {
	y := new(big.Rat).Mul(x, decimal(big.NewInt(1), -k))
	low := new(big.Int).Quo(y.Num(), y.Denom())
	return []*big.Int{low, new(big.Int).Add(low, big.NewInt(1))}
}

// checkShortest holds a text against the words of P2.4 and P2.10.
func checkShortest(t *testing.T, name string, f width, w uint64) {
	t.Helper()
	s := f.write(w)
	if !f.reads(s, w) {
		t.Fatalf("P2.7: %s of %x = %s is read as another number", name, w, s)
	}
	d, k := takeApart(s)
	x := f.value(w)
	n := len(d.String())
	distance := func(d *big.Int, k int) *big.Rat {
		y := new(big.Rat).Sub(decimal(d, k), x)
		return y.Abs(y)
	}
	// A decimal with fewer digits has a greater power, or is beside a power of ten: the neighbours of x are the nearest of each.
	for more := -1; more <= 3; more++ {
		for _, other := range neighbours(x, k+more) {
			if other.Sign() == 0 || !f.reads(other.String()+"e"+strconv.Itoa(k+more), w) {
				continue
			}
			digits := len(strings.TrimRight(other.String(), "0"))
			if digits < n {
				t.Fatalf("P2.10: %s of %x = %s, but %de%d is shorter", name, w, s, other, k+more)
			}
			same := decimal(other, k+more).Cmp(decimal(d, k)) == 0
			c := distance(other, k+more).Cmp(distance(d, k))
			if digits == n && !same && (c < 0 || c == 0 && d.Bit(0) == 1) {
				t.Fatalf("P2.4: %s of %x = %s, but %de%d is nearer, or even", name, w, s, other, k+more)
			}
		}
	}
}

func TestShortest(t *testing.T) {
	for v, s := range map[float64]string{
		0.1: "0.1", 1e21: "1e+21", 123456789012345680000: "123456789012345680000", 1e-7: "1e-7", 0.000001: "0.000001", math.SmallestNonzeroFloat64: "5e-324", 16777216: "16777216", 1: "1", 10: "10", 1e20: "100000000000000000000", 1.5e20: "150000000000000000000", 1.5e21: "1.5e+21", 123.456: "123.456", 0.00000123: "0.00000123", 0.000000123: "1.23e-7", 1e100: "1e+100", 1e-100: "1e-100", math.MaxFloat64: "1.7976931348623157e+308", 0x1p-1022: "2.2250738585072014e-308", 9007199254740992: "9007199254740992", 9007199254740994: "9007199254740994", 1e23: "1e+23", 2e-323: "2e-323", 0.3: "0.3", 0.1 + 0.7: "0.8", 5e-5: "0.00005", 123456.75: "123456.75", 999999999999999900000: "999999999999999900000", 9.5367431640625e-7: "9.5367431640625e-7",
		1125899906842624.25: "1125899906842624.2", 1125899906842624.75: "1125899906842624.8", // between two of 17 digits: the even one
	} {
		if got := Shortest(v); got != s {
			t.Errorf("P2.4: Shortest(%v) = %s", v, got)
		}
		if got := Shortest(-v); got != "-"+s {
			t.Errorf("P2.4: Shortest(%v) = %s", -v, got)
		}
	}
	for v, s := range map[float32]string{0.1: "0.1", 16777216: "16777216", math.MaxFloat32: "3.4028235e+38", math.SmallestNonzeroFloat32: "1e-45", 0x1p-126: "1.1754944e-38", 1e21: "1e+21", 3.3e-7: "3.3e-7", 8388609: "8388609", 33554432: "33554432", 2097152.25: "2097152.2", 2097152.75: "2097152.8"} {
		if got := Shortest32(v); got != s {
			t.Errorf("P2.4: Shortest32(%v) = %s", v, got)
		}
		if got := Shortest32(-v); got != "-"+s {
			t.Errorf("P2.4: Shortest32(%v) = %s", -v, got)
		}
	}
}

func TestShortestByItsWords(t *testing.T) {
	all := widths()
	for w := uint64(1); w < 3000; w++ {
		checkShortest(t, "Shortest", all["Shortest"], w)
		checkShortest(t, "Shortest32", all["Shortest32"], w)
	}
	for _, v := range someNumbers(8000) {
		w := math.Float64bits(v) &^ (1 << 63)
		if w != 0 {
			checkShortest(t, "Shortest", all["Shortest"], w)
		}
		if f := uint64(math.Float32bits(float32(v))) &^ (1 << 31); f != 0 && f < 255<<23 {
			checkShortest(t, "Shortest32", all["Shortest32"], f)
		}
		if f := w >> 29 & (1<<31 - 1); f != 0 && f < 255<<23 {
			checkShortest(t, "Shortest32", all["Shortest32"], f)
		}
	}
	for field := uint64(1); field < 2047; field++ {
		for _, w := range []uint64{field<<52 - 1, field << 52, field<<52 + 1} {
			checkShortest(t, "Shortest", all["Shortest"], w)
		}
		if field < 255 {
			checkShortest(t, "Shortest32", all["Shortest32"], field<<23)
		}
	}
	for i := range uint64(400) {
		checkShortest(t, "Shortest", all["Shortest"], math.Float64bits(0x1p50)+i)
		checkShortest(t, "Shortest32", all["Shortest32"], uint64(math.Float32bits(0x1p21))+i)
	}
	for k := -323; k <= 308; k++ {
		v, _ := strconv.ParseFloat("1e"+strconv.Itoa(k), 64)
		checkShortest(t, "Shortest", all["Shortest"], math.Float64bits(v))
	}
}

func TestNamedNumbers(t *testing.T) {
	nought := math.Copysign(0, -1)
	nans := []float64{math.NaN(), -math.NaN(), math.Float64frombits(1<<63 | 2047<<52 | 1), math.Float64frombits(1<<64 - 1)}
	for _, v := range nans {
		if Shortest(v) != "nan" || Exact(v) != "nan" || Hex(v) != "nan" {
			t.Errorf("P2.4 to P2.6: of a NaN %s, %s, %s", Shortest(v), Exact(v), Hex(v))
		}
	}
	if s := Shortest32(math.Float32frombits(1<<32 - 1)); s != "nan" {
		t.Errorf("P2.4: Shortest32 of a NaN = %s", s)
	}
	for _, c := range []struct {
		v      float64
		s, hex string
	}{{math.Inf(1), "inf", "inf"}, {math.Inf(-1), "-inf", "-inf"}, {0, "0", "0x0p+0"}, {nought, "-0", "-0x0p+0"}} {
		if Shortest(c.v) != c.s || Shortest32(float32(c.v)) != c.s || Exact(c.v) != c.s || Hex(c.v) != c.hex {
			t.Errorf("P2.4 to P2.6: of %v %s, %s, %s, %s", c.v, Shortest(c.v), Shortest32(float32(c.v)), Exact(c.v), Hex(c.v))
		}
	}
}

func TestExact(t *testing.T) {
	for v, s := range map[float64]string{
		0.1: "0.1000000000000000055511151231257827021181583404541015625", -2.5: "-2.5", 1e22: "10000000000000000000000", 1: "1", -10: "-10", 0.5: "0.5", 0.0078125: "0.0078125", 1024.25: "1024.25", 9007199254740993: "9007199254740992", 2251799813685249.5: "2251799813685249.5",
	} {
		if got := Exact(v); got != s {
			t.Errorf("P2.5: Exact(%v) = %s", v, got)
		}
	}
	for _, v := range someNumbers(3000) {
		s := Exact(v)
		if v == 0 {
			continue
		}
		x, ok := new(big.Rat).SetString(s)
		q, _ := Quotient(v)
		if !ok || x.Cmp(toRat(q)) != 0 {
			t.Fatalf("P2.11: Exact(%v) = %s", v, s)
		}
		if want := exactText(x); s != want {
			t.Fatalf("P2.5: Exact(%v) = %s, not %s", v, s, want)
		}
	}
}

func TestHex(t *testing.T) {
	for v, s := range map[float64]string{
		1: "0x1p+0", 0.1: "0x1.999999999999ap-4", math.SmallestNonzeroFloat64: "0x0.0000000000001p-1022", -3: "-0x1.8p+1", 0x1p-1022: "0x1p-1022", 0x1p-1023: "0x0.8p-1022", -0x0.fffffffffffffp-1022: "-0x0.fffffffffffffp-1022", 0x0.000000000001p-1022: "0x0.000000000001p-1022", math.MaxFloat64: "0x1.fffffffffffffp+1023", 0x1p1023: "0x1p+1023", 0x1.0000000000001p0: "0x1.0000000000001p+0", 0.5: "0x1p-1", 1024.5: "0x1.002p+10",
	} {
		if got := Hex(v); got != s {
			t.Errorf("P2.6: Hex(%v) = %s", v, got)
		}
	}
	for _, v := range someNumbers(3000) {
		if math.Abs(v) < 0x1p-1022 {
			continue
		}
		want := strconv.FormatFloat(v, 'x', -1, 64)
		mantissa, power, _ := strings.Cut(want, "p")
		n, _ := strconv.Atoi(power)
		if got := Hex(v); got != mantissa+"p"+withSign(n) {
			t.Fatalf("P2.6: Hex(%v) = %s, not %s", v, got, want)
		}
	}
}

func TestThereAndBack(t *testing.T) {
	for _, v := range append(someNumbers(20000), math.Inf(1), math.Inf(-1)) {
		for name, write := range map[string]func(v float64) string{"Shortest": Shortest, "Exact": Exact, "Hex": Hex} {
			if back, why, at := Read(write(v)); !isBits(back, math.Float64bits(v)) || why != api.OK || at != 0 {
				t.Fatalf("P2.7: Read of %s(%v) = %v, %d, %d", name, v, back, why, at)
			}
		}
		f := float32(v)
		if back, why, at := Read32(Shortest32(f)); !isBits32(back, math.Float32bits(f)) || why != api.OK || at != 0 {
			t.Fatalf("P2.7: Read32 of Shortest32(%v) = %v, %d, %d", f, back, why, at)
		}
	}
	for _, s := range []string{Shortest(math.NaN()), Exact(math.NaN()), Hex(math.NaN()), Shortest32(float32(math.NaN()))} {
		v, why, _ := Read(s)
		v32, why32, _ := Read32(s)
		if v == v || v32 == v32 || why != api.OK || why32 != api.OK {
			t.Errorf("P2.7: a NaN written as %s", s)
		}
	}
}

package fixed

import (
	"math"
	"math/big"
	"slices"
	"testing"

	"thicket/api"
	"thicket/limbs"
)

func sumByBig(l []int64) (int64, api.Errno) {
	sum := new(big.Int)
	for _, v := range l {
		sum.Add(sum, big.NewInt(v))
	}
	if !sum.IsInt64() {
		return 0, api.ErrBig
	}
	return sum.Int64(), api.OK
}

func TestAdd(t *testing.T) {
	for _, c := range []struct {
		a, b, want int64
		why        api.Errno
	}{
		{math.MaxInt64, 1, 0, api.ErrBig}, {1, math.MaxInt64, 0, api.ErrBig}, {math.MinInt64, -1, 0, api.ErrBig}, {math.MinInt64, math.MinInt64, 0, api.ErrBig}, {math.MaxInt64, math.MaxInt64, 0, api.ErrBig}, {1 << 62, 1 << 62, 0, api.ErrBig},
		{math.MaxInt64, math.MinInt64, -1, 0}, {math.MaxInt64, 0, math.MaxInt64, 0}, {math.MinInt64, 0, math.MinInt64, 0}, {math.MinInt64, 1, math.MinInt64 + 1, 0}, {-1 << 62, -1 << 62, math.MinInt64, 0}, {math.MaxInt64, -1, math.MaxInt64 - 1, 0}, {2, 3, 5, 0}, {-2, 3, 1, 0}, {2, -3, -1, 0}, {0, 0, 0, 0},
	} {
		if v, why := Add(c.a, c.b); v != c.want || why != c.why {
			t.Errorf("P4.3: Add(%d, %d) = %d, %d", c.a, c.b, v, why)
		}
	}
	l := someNumbers(20000)
	for i := range l[1:] {
		v, why := Add(l[i], l[i+1])
		if want, wantWhy := sumByBig(l[i : i+2]); v != want || why != wantWhy {
			t.Fatalf("P4.3: Add(%d, %d) = %d, %d", l[i], l[i+1], v, why)
		}
	}
}

func TestSumExamples(t *testing.T) {
	most := slices.Repeat([]int64{math.MaxInt64}, 100000)
	least := slices.Repeat([]int64{math.MinInt64}, 100000)
	for _, c := range []struct {
		l    []int64
		want int64
		why  api.Errno
	}{
		{nil, 0, 0}, {[]int64{}, 0, 0}, {[]int64{7}, 7, 0}, {[]int64{math.MinInt64}, math.MinInt64, 0}, {[]int64{math.MaxInt64, 1, -1}, math.MaxInt64, 0}, {[]int64{math.MaxInt64, 1}, 0, api.ErrBig}, {[]int64{math.MinInt64, -1, 1}, math.MinInt64, 0}, {[]int64{math.MinInt64, -1}, 0, api.ErrBig},
		{[]int64{math.MaxInt64, math.MaxInt64, 2}, 0, api.ErrBig}, {[]int64{math.MinInt64, math.MinInt64}, 0, api.ErrBig}, {[]int64{math.MinInt64, math.MinInt64, math.MinInt64, math.MinInt64}, 0, api.ErrBig},
		{most, 0, api.ErrBig}, {least, 0, api.ErrBig}, {slices.Concat(most, least), -100000, 0}, {slices.Concat(least, most), -100000, 0}, {slices.Concat(most, least, most), 0, api.ErrBig},
	} {
		if v, why := Sum(c.l); v != c.want || why != c.why {
			t.Errorf("P4.3: Sum(%.60v) = %d, %d", c.l, v, why)
		}
	}
}

func TestSumOfAnyLists(t *testing.T) {
	r := source()
	numbers := someNumbers(1000)
	for range 20000 {
		l := make([]int64, r.IntN(8), 9)
		for i := range l {
			l[i] = numbers[r.IntN(len(numbers))]
		}
		given := slices.Clone(l)
		v, why := Sum(l)
		if want, wantWhy := sumByBig(l); v != want || why != wantWhy || !slices.Equal(l, given) {
			t.Fatalf("P4.3: Sum(%v) = %d, %d", given, v, why)
		}
		r.Shuffle(len(l), func(i, j int) { l[i], l[j] = l[j], l[i] })
		if again, whyAgain := Sum(l); again != v || whyAgain != why {
			t.Fatalf("P4.9: Sum(%v) = %d, %d; %d, %d in another order", l, v, why, again, whyAgain)
		}
		cut := r.IntN(len(l) + 1)
		a, whyA := Sum(l[:cut])
		b, whyB := Sum(l[cut:])
		if both, whyBoth := Add(a, b); whyA == api.OK && whyB == api.OK && (both != v || whyBoth != why) {
			t.Fatalf("P4.9: Sum(%v) = %d, %d; of two parts %d, %d", l, v, why, both, whyBoth)
		}
	}
}

func TestScaleExamples(t *testing.T) {
	const most, least = math.MaxInt64, math.MinInt64
	for _, c := range []struct {
		v, num, den, want int64
		why               api.Errno
	}{
		{5, 1, 2, 2, 0}, {7, 1, 2, 4, 0}, {-5, 1, 2, -2, 0}, {5, -1, 2, -2, 0}, {5, 1, -2, -2, 0}, {-5, -1, -2, -2, 0}, {-7, -1, 2, 4, 0}, {1, 1, 2, 0, 0}, {-1, 1, 2, 0, 0}, {3, 1, 2, 2, 0}, {2, 1, 3, 1, 0}, {1, 1, 3, 0, 0}, {0, -5, -3, 0, 0}, {5, 0, -3, 0, 0},
		{least, 1, -1, 0, api.ErrBig}, {least, -1, 1, 0, api.ErrBig}, {least, least, least, least, 0}, {least, 1, 1, least, 0}, {least, -1, -1, least, 0}, {most, most, most, most, 0}, {most, most, -most, -most, 0}, {least, most, -most, 0, api.ErrBig}, {least, least, most, 0, api.ErrBig}, {least, most, most, least, 0}, {least, least, 1, 0, api.ErrBig}, {most, 2, 1, 0, api.ErrBig}, {most, 4, 1, 0, api.ErrBig}, {most, least, 1, 0, api.ErrBig}, {1 << 62, 2, 1, 0, api.ErrBig}, {1 << 62, -2, 1, least, 0}, {1 << 62, 4, 1, 0, api.ErrBig}, {1 << 62, -4, 1, 0, api.ErrBig},
		{most, 2, 2, most, 0}, {1, 1, least, 0, 0}, {1 << 62, 1, least, 0, 0}, {1<<62 + 1, 1, least, -1, 0}, {1 << 62, 3, least, -2, 0}, {most, 1, least, -1, 0}, {least, 1, least, 1, 0}, {least, 1, most, -1, 0}, {most, most, 1 << 62, 0, api.ErrBig},
		{6148914691236517205, 3, 2, 0, api.ErrBig}, {6148914691236517205, 3, -2, least, 0}, {6148914691236517206, 3, -2, 0, api.ErrBig}, {6148914691236517204, 3, 2, 9223372036854775806, 0}, {least, 4, 2, 0, api.ErrBig}, {most, 6, 3, 0, api.ErrBig}, {6148914691236517205, 6, 2, 0, api.ErrBig}, {least, 7, 4, 0, api.ErrBig}, {1<<33 - 1, 1<<33 + 1, 4, 0, api.ErrBig}, {1<<33 - 1, -1<<33 - 1, 4, 0, api.ErrBig}, {1<<47 - 1, 1<<47 + 1, 1 << 30, 0, api.ErrBig}, {6917529027641081855, 8, 3, 0, api.ErrBig}, {3689348814741910323, 5, 1, 0, api.ErrBig}, {3689348814741910323, 15, 3, 0, api.ErrBig},
		{1, 1, 0, 0, api.ErrRange}, {0, 0, 0, 0, api.ErrRange}, {least, least, 0, 0, api.ErrRange},
	} {
		if v, why := Scale(c.v, c.num, c.den); v != c.want || why != c.why {
			t.Errorf("P4.4: Scale(%d, %d, %d) = %d, %d", c.v, c.num, c.den, v, why)
		}
	}
}

func TestScaleOfAnyNumbers(t *testing.T) {
	r := source()
	numbers := someNumbers(2000)
	pick := func() int64 {
		if r.IntN(3) == 0 {
			return int64(r.IntN(41) - 20)
		}
		return numbers[r.IntN(len(numbers))]
	}
	for range 100000 {
		a, num, den := pick(), pick(), pick()
		v, why := Scale(a, num, den)
		if den == 0 {
			if v != 0 || why != api.ErrRange {
				t.Fatalf("P4.4: Scale(%d, %d, 0) = %d, %d", a, num, v, why)
			}
			continue
		}
		f := new(big.Rat).SetFrac(new(big.Int).Mul(big.NewInt(a), big.NewInt(num)), big.NewInt(den))
		if want, wantWhy := nearestWhole(f); v != want || why != wantWhy {
			t.Fatalf("P4.4: Scale(%d, %d, %d) = %d, %d; not %d, %d", a, num, den, v, why, want, wantWhy)
		}
		off := f.Sub(f, new(big.Rat).SetInt64(v))
		if why == api.OK && off.Abs(off).Cmp(big.NewRat(1, 2)) > 0 {
			t.Fatalf("P4.10: Scale(%d, %d, %d) = %d", a, num, den, v)
		}
		if one, why := Scale(a, 1, 1); one != a || why != api.OK {
			t.Fatalf("P4.10: Scale(%d, 1, 1) = %d, %d", a, one, why)
		}
	}
}

func TestNearestExamples(t *testing.T) {
	for v, want := range map[float64]int64{
		0.1: 100000, 0.0000005: 0, 0.5 / (1 << 20): 0, 1.5 / (1 << 20): 1, 1: 1000000, -2.25: -2250000, 5e-324: 0, -5e-324: 0, 1e-6: 1, 1.5e-6: 2, 1e12: 1000000000000000000, -1e12: -1000000000000000000, 1.0 / (1 << 7): 7812, 3.0 / (1 << 7): 23438, -1.0 / (1 << 7): -7812, 5.0 / (1 << 7): 39062, 7.0 / (1 << 7): 54688, 9223372036854.7734375: 9223372036854773438, -9223372036854.775390625: -9223372036854775391,
	} {
		if got, why := Nearest(v); got != want || why != api.OK {
			t.Errorf("P4.5: Nearest(%v) = %d, %d", v, got, why)
		}
	}
	for _, v := range []float64{0, math.Copysign(0, -1)} {
		if got, why := Nearest(v); got != 0 || why != api.OK {
			t.Errorf("P4.5: Nearest(%v) = %d, %d", v, got, why)
		}
	}
	for _, v := range []float64{1e13, -1e13, math.MaxFloat64, -math.MaxFloat64, 9223372036854.77734375, -9223372036854.77734375, 1 << 63, math.Inf(1), math.Inf(-1)} {
		if got, why := Nearest(v); got != 0 || why != api.ErrBig {
			t.Errorf("P4.5: Nearest(%v) = %d, %d", v, got, why)
		}
	}
	for _, w := range []uint64{0x7ff8000000000000, 0xfff8000000000000, 0x7ff0000000000001, 0xffffffffffffffff} {
		if got, why := Nearest(math.Float64frombits(w)); got != 0 || why != api.ErrNaN {
			t.Errorf("P4.5: Nearest of a NaN: %d, %d", got, why)
		}
	}
}

func TestNearestOfAnyNumbers(t *testing.T) {
	r := source()
	for i := range 20000 {
		v := math.Float64frombits(r.Uint64())
		switch i % 4 {
		case 1:
			v = math.Ldexp(float64(r.Int64N(1<<53)), -r.IntN(120))
		case 2:
			v = math.Ldexp(float64(r.IntN(4096)-2048), -r.IntN(30))
		case 3:
			v = 9223372036854.775807 + math.Ldexp(float64(r.IntN(9)-4), -9)
		}
		f := new(big.Rat).SetFloat64(v)
		if f == nil {
			continue
		}
		got, why := Nearest(v)
		if want, wantWhy := millionths(f); got != want || why != wantWhy {
			t.Fatalf("P4.5: Nearest(%v) = %d, %d; not %d, %d", v, got, why, want, wantWhy)
		}
	}
}

func TestFloat(t *testing.T) {
	for v, want := range map[int64]float64{0: 0, 1: 1e-6, -1: -1e-6, 1500000: 1.5, math.MaxInt64: 9223372036854.775807, math.MinInt64: -9223372036854.775808, 100000: 0.1} {
		if got := Float(v); math.Float64bits(got) != math.Float64bits(want) {
			t.Errorf("P4.5: Float(%d) = %v", v, got)
		}
	}
	numbers := someNumbers(20000)
	slices.Sort(numbers)
	before := math.Inf(-1)
	for _, v := range numbers {
		got := Float(v)
		if want, _ := big.NewRat(v, api.Unit).Float64(); got != want {
			t.Fatalf("P4.5: Float(%d) = %v", v, got)
		}
		if got < before {
			t.Fatalf("P4.8: Float(%d) is less than that of a lesser number", v)
		}
		before = got
		if back, why := Nearest(got); v >= -1<<52 && v <= 1<<52 && (back != v || why != api.OK) {
			t.Fatalf("P4.8: Nearest(Float(%d)) = %d, %d", v, back, why)
		}
	}
	for back := range int64(2000) {
		for _, v := range []int64{1<<52 - back, -1<<52 + back} {
			if again, why := Nearest(Float(v)); again != v || why != api.OK {
				t.Fatalf("P4.8: Nearest(Float(%d)) = %d, %d", v, again, why)
			}
		}
	}
}

func TestRatio(t *testing.T) {
	for v, want := range map[int64]string{0: "0", 1500000: "3/2", -1: "-1/1000000", 1000000: "1", -2000000: "-2", math.MinInt64: "-144115188075855872/15625", 64: "1/15625", math.MaxInt64: "9223372036854775807/1000000"} {
		if s, why := limbs.Write(Ratio(v)); s != want || why != api.OK {
			t.Errorf("P4.5: Ratio(%d) = %s, %d", v, s, why)
		}
	}
	for _, v := range someNumbers(5000) {
		r := Ratio(v)
		want, _ := limbs.Over(v < 0, limbs.From(uint64(max(v, -v))), limbs.From(api.Unit))
		if r.Neg != want.Neg || !slices.Equal(r.Num, want.Num) || !slices.Equal(r.Den, want.Den) {
			t.Fatalf("P4.5: Ratio(%d) = %v", v, r)
		}
	}
}

func TestRatioMemory(t *testing.T) {
	a, b := Ratio(1500000), Ratio(1500000)
	for _, l := range [][]uint32{a.Num[:cap(a.Num)], a.Den[:cap(a.Den)]} {
		for i := range l {
			l[i] = 99
		}
	}
	if !slices.Equal(b.Num, []uint32{3}) || !slices.Equal(b.Den, []uint32{2}) {
		t.Error("P4.6: two answers share memory:", b)
	}
	c := Ratio(-1)
	num, den := c.Num[:cap(c.Num)], c.Den[:cap(c.Den)]
	for i := range num {
		num[i] = 7
	}
	if slices.Contains(den, 7) {
		t.Error("P4.6: the lists of one answer share memory:", c)
	}
	if s, _ := limbs.Write(Ratio(1500000)); s != "3/2" {
		t.Error("P4.6: an answer is kept:", s)
	}
}

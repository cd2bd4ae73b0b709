package limbs

import (
	"math"
	"math/big"
	"slices"
	"strings"
	"testing"

	"thicket/api"
)

func ratio(neg bool, num, den uint32) api.Ratio {
	return api.Ratio{Neg: neg, Num: []uint32{num}, Den: []uint32{den}}
}

func toRat(a api.Ratio) *big.Rat {
	r := new(big.Rat).SetFrac(toBig(a.Num), toBig(a.Den))
	if a.Neg {
		r.Neg(r)
	}
	return r
}

// isRatio tells whether an answer is right and says what is wanted.
func isRatio(got api.Ratio, want *big.Rat) bool {
	num := new(big.Int).Abs(want.Num())
	return got.Neg == (want.Sign() < 0) && isRight(got.Num, num) && isRight(got.Den, want.Denom())
}

func isZero(a api.Ratio) bool { return !a.Neg && a.Num == nil && a.Den == nil }

// ratios calls try with many pairs of quotients, right or not, none over nought.
func ratios(try func(a, b api.Ratio)) {
	r := source()
	some := func(n int) api.Ratio {
		common := append(someLimbs(r, 1), 0)
		den := Mul(common, someLimbs(r, n))
		if Len(den) == 0 {
			den = []uint32{1 + r.Uint32N(3), 0}
		}
		return api.Ratio{Neg: r.IntN(2) == 0, Num: append(Mul(common, someLimbs(r, n)), 0), Den: den}
	}
	for i := range 10000 {
		a, b := some(1+i%4), some(1+i%3)
		try(a, b)
		if i%10 == 0 {
			try(a, a)
			try(a, api.Ratio{Neg: !a.Neg, Num: a.Num, Den: a.Den})
		}
	}
}

func TestOverWhole(t *testing.T) {
	ratios(func(a, _ api.Ratio) {
		if got, why := Over(a.Neg, a.Num, a.Den); !isRatio(got, toRat(a)) || why != api.OK {
			t.Fatalf("1.6: Over of %v = %v, %d", a, got, why)
		}
	})
	if got, why := Over(true, []uint32{6}, []uint32{4}); !got.Neg || !slices.Equal(got.Num, []uint32{3}) || !slices.Equal(got.Den, []uint32{2}) || why != api.OK {
		t.Error("1.6: Over(true, 6, 4)", got, why)
	}
	for _, nought := range [][]uint32{nil, {0}, {0, 0}} {
		if got, why := Over(true, nought, []uint32{5}); got.Neg || len(got.Num) > 0 || !slices.Equal(got.Den, []uint32{1}) || why != api.OK {
			t.Error("1.6: Over(true, 0, 5)", got, why)
		}
		if got, why := Over(true, []uint32{5}, nought); !isZero(got) || why != api.ErrZero {
			t.Error("1.6: Over(true, 5, 0)", got, why)
		}
		if got, why := Over(false, nought, nought); !isZero(got) || why != api.ErrZero {
			t.Error("1.6: Over(false, 0, 0)", got, why)
		}
	}
	for _, n := range []int64{0, 1, -1, 1<<32 - 1, -1 << 32, math.MaxInt64, math.MinInt64, math.MinInt64 + 1} {
		if got := Whole(n); !isRatio(got, new(big.Rat).SetInt64(n)) {
			t.Errorf("1.6: Whole(%d) = %v", n, got)
		}
	}
}

func TestRatioArithmetic(t *testing.T) {
	ratios(func(a, b api.Ratio) {
		x, y := toRat(a), toRat(b)
		for _, c := range []struct {
			name string
			do   func(a, b api.Ratio) (api.Ratio, api.Errno)
			want func(z, x, y *big.Rat) *big.Rat
		}{
			{"Plus", Plus, (*big.Rat).Add}, {"Minus", Minus, (*big.Rat).Sub}, {"Times", Times, (*big.Rat).Mul}, {"By", By, (*big.Rat).Quo},
		} {
			got, why := c.do(a, b)
			if c.name == "By" && y.Sign() == 0 {
				if !isZero(got) || why != api.ErrZero {
					t.Fatalf("1.6: By(%v, %v) = %v, %d", a, b, got, why)
				}
			} else if !isRatio(got, c.want(new(big.Rat), x, y)) || why != api.OK {
				t.Fatalf("1.6: %s(%v, %v) = %v, %d", c.name, a, b, got, why)
			}
		}
		if got, why := Order(a, b); got != x.Cmp(y) || why != api.OK {
			t.Fatalf("1.6: Order(%v, %v) = %d, %d", a, b, got, why)
		}
	})
	if got, why := Order(ratio(true, 0, 3), ratio(false, 0, 5)); got != 0 || why != api.OK {
		t.Error("1.6: Order of two noughts", got, why)
	}
}

func TestRatioOverNought(t *testing.T) {
	good := ratio(true, 1, 2)
	for _, bad := range []api.Ratio{{}, {Neg: true}, {Num: []uint32{1}}, {Num: []uint32{1}, Den: []uint32{0, 0}}, {Den: []uint32{0}}} {
		for _, pair := range [][2]api.Ratio{{good, bad}, {bad, good}, {bad, bad}, {bad, Whole(0)}, {Whole(0), bad}} {
			for name, do := range map[string]func(a, b api.Ratio) (api.Ratio, api.Errno){"Plus": Plus, "Minus": Minus, "Times": Times, "By": By} {
				if got, why := do(pair[0], pair[1]); !isZero(got) || why != api.ErrZero {
					t.Errorf("1.6: %s%v = %v, %d", name, pair, got, why)
				}
			}
			if got, why := Order(pair[0], pair[1]); got != 0 || why != api.ErrZero {
				t.Errorf("1.6: Order%v = %d, %d", pair, got, why)
			}
		}
		if s, why := Write(bad); s != "" || why != api.ErrZero {
			t.Errorf("1.7: Write(%v) = %q, %d", bad, s, why)
		}
		for _, n := range []int{0, 3, -1, api.MaxPlaces + 1} {
			if s, why := Decimal(bad, n); s != "" || why != api.ErrZero {
				t.Errorf("1.7: Decimal(%v, %d) = %q, %d", bad, n, s, why)
			}
		}
	}
}

func TestWrite(t *testing.T) {
	ratios(func(a, _ api.Ratio) {
		if got, why := Write(a); got != toRat(a).RatString() || why != api.OK {
			t.Fatalf("1.7: Write(%v) = %s, %d", a, got, why)
		}
	})
	for want, a := range map[string]api.Ratio{"-3/2": ratio(true, 6, 4), "0": ratio(true, 0, 7), "-2": ratio(true, 4, 2), "-9223372036854775808": Whole(math.MinInt64)} {
		if got, why := Write(a); got != want || why != api.OK {
			t.Errorf("1.7: Write(%v) = %s, %d", a, got, why)
		}
	}
}

// decimalOf rounds by Rat's quotients alone: to the nearest, of two the even one.
func decimalOf(x *big.Rat, digits int) string {
	scale := new(big.Int).Exp(big.NewInt(10), big.NewInt(int64(digits)), nil)
	y := new(big.Rat).Mul(new(big.Rat).Abs(x), new(big.Rat).SetInt(scale))
	q, rest := new(big.Int).QuoRem(y.Num(), y.Denom(), new(big.Int))
	if c := rest.Lsh(rest, 1).Cmp(y.Denom()); c > 0 || c == 0 && q.Bit(0) == 1 {
		q.Add(q, big.NewInt(1))
	}
	s := q.String()
	for len(s) <= digits {
		s = "0" + s
	}
	if digits > 0 {
		s = s[:len(s)-digits] + "." + s[len(s)-digits:]
	}
	if x.Sign() < 0 && q.Sign() != 0 {
		s = "-" + s
	}
	return s
}

func TestDecimal(t *testing.T) {
	for _, c := range []struct {
		a    api.Ratio
		n    int
		want string
	}{
		{ratio(false, 1, 3), 4, "0.3333"}, {ratio(false, 1, 8), 2, "0.12"}, {ratio(false, 3, 8), 2, "0.38"}, {ratio(true, 1, 3), 0, "0"}, {ratio(false, 5, 2), 0, "2"},
		{ratio(false, 7, 2), 0, "4"}, {ratio(true, 5, 2), 0, "-2"}, {ratio(true, 1, 2), 0, "0"}, {ratio(true, 3, 2), 0, "-2"}, {ratio(true, 1, 3000), 3, "0.000"}, {ratio(true, 1, 2000), 3, "0.000"}, {ratio(true, 3, 2000), 3, "-0.002"},
		{ratio(false, 0, 9), 2, "0.00"}, {ratio(true, 0, 9), 0, "0"}, {ratio(false, 999, 1000), 2, "1.00"}, {ratio(false, 199, 20), 1, "10.0"}, {ratio(false, 12, 4), 1, "3.0"}, {ratio(false, 1, 1), api.MaxPlaces, "1." + strings.Repeat("0", api.MaxPlaces)}, {ratio(true, 2, 3), api.MaxPlaces, "-0." + strings.Repeat("6", api.MaxPlaces-1) + "7"},
	} {
		if got, why := Decimal(c.a, c.n); got != c.want || why != api.OK {
			t.Errorf("1.7: Decimal(%v, %d) = %s, %d", c.a, c.n, got, why)
		}
	}
	i := 0
	ratios(func(a, _ api.Ratio) {
		i++
		if got, why := Decimal(a, i%12); got != decimalOf(toRat(a), i%12) || why != api.OK {
			t.Fatalf("1.7: Decimal(%v, %d) = %s, %d", a, i%12, got, why)
		}
	})
	for num := range uint32(400) {
		for digits := range 4 {
			a := ratio(num%3 == 0, num, 16)
			if got, why := Decimal(a, digits); got != decimalOf(toRat(a), digits) || why != api.OK {
				t.Fatalf("1.7: Decimal(%v, %d) = %s, %d", a, digits, got, why)
			}
		}
	}
	for _, n := range []int{-1, api.MaxPlaces + 1, math.MinInt, math.MaxInt} {
		if s, why := Decimal(ratio(false, 1, 3), n); s != "" || why != api.ErrRange {
			t.Errorf("1.7: Decimal(1/3, %d) = %q, %d", n, s, why)
		}
	}
}

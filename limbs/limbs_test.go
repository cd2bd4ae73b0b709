package limbs

import (
	"math"
	"math/big"
	"math/rand/v2"
	"slices"
	"strings"
	"testing"

	"thicket/api"
)

// toBig is what limbs say, right or not, by another's arithmetic.
func toBig(a []uint32) *big.Int {
	b := make([]byte, 4*len(a))
	for i, x := range a {
		for j := range 4 {
			b[len(b)-1-4*i-j] = byte(x >> (8 * j))
		}
	}
	return new(big.Int).SetBytes(b)
}

func fromBig(n *big.Int) []uint32 {
	b := n.Bytes()
	out := make([]uint32, (len(b)+3)/4)
	for i := range b {
		out[i/4] |= uint32(b[len(b)-1-i]) << (8 * (i % 4))
	}
	return out
}

// isRight tells whether an answer has no needless limb and says what is wanted.
func isRight(got []uint32, want *big.Int) bool {
	return slices.Equal(got, fromBig(want))
}

func source() *rand.Rand { return rand.New(rand.NewPCG(1, 2)) }

// someLimbs are at most n limbs, right or not: any ones, ones at the edges of a limb's range, or mostly noughts.
func someLimbs(r *rand.Rand, n int) []uint32 {
	a := make([]uint32, r.IntN(n+1))
	edges := []uint32{0, 1, 2, 1<<31 - 1, 1 << 31, 1<<32 - 2, 1<<32 - 1}
	kind := r.IntN(3)
	for i := range a {
		switch {
		case kind == 0 || kind == 1 && r.IntN(6) == 0:
			a[i] = r.Uint32()
		case kind == 2:
			a[i] = edges[r.IntN(len(edges))]
		}
	}
	return a
}

// pairs calls try with many pairs of naturals, small ones and such as are multiplied by pieces and by halves.
func pairs(try func(a, b []uint32)) {
	r := source()
	for i := range 20000 {
		n := 6
		if i%100 == 0 {
			n = 4 * fewLimbs
		}
		try(someLimbs(r, n), someLimbs(r, n))
	}
	for _, n := range []int{fewLimbs, fewLimbs + 1, 2*fewLimbs + 1} {
		for _, m := range []int{n, n + 1, 2*n - 1, 2 * n, 2*n + 1, 5 * n} {
			a, b := slices.Repeat([]uint32{limbMost}, n), slices.Repeat([]uint32{limbMost}, m)
			try(a, b)
			try(b, a)
		}
	}
}

func TestNormFromSmall(t *testing.T) {
	for _, c := range []struct{ in, want []uint32 }{
		{nil, nil}, {[]uint32{0}, nil}, {[]uint32{0, 0, 0}, nil}, {[]uint32{5, 0}, []uint32{5}}, {[]uint32{0, 7, 0, 0}, []uint32{0, 7}}, {[]uint32{1, 2, 3}, []uint32{1, 2, 3}},
	} {
		if got := Norm(c.in); !slices.Equal(got, c.want) {
			t.Errorf("1.1: Norm(%v) = %v", c.in, got)
		}
	}
	for _, n := range []uint64{0, 1, 1<<32 - 1, 1 << 32, 1<<32 + 1, 1<<63 + 5, math.MaxUint64} {
		got := From(n)
		if !isRight(got, new(big.Int).SetUint64(n)) {
			t.Errorf("1.1: From(%d) = %v", n, got)
		}
		if back, ok := Small(append(got, 0, 0)); back != n || !ok {
			t.Errorf("1.1: Small(From(%d)) = %d, %v", n, back, ok)
		}
	}
	for _, a := range [][]uint32{{0, 0, 1}, {1, 2, 3}, {5, 5, 0, 1, 0}} {
		if n, ok := Small(a); n != 0 || ok {
			t.Errorf("1.1: Small(%v) = %d, %v", a, n, ok)
		}
	}
}

func TestReadPrint(t *testing.T) {
	for s, want := range map[string][]uint32{"0": nil, "000": nil, "0042": {42}, "4294967295": {limbMost}, "4294967296": {0, 1}, "18446744073709551616": {0, 0, 1}} {
		if got, why, at := Read(s); !slices.Equal(got, want) || why != api.OK || at != 0 {
			t.Errorf("1.2: Read(%s) = %v, %d, %d", s, got, why, at)
		}
	}
	for s, place := range map[string]int{"": 0, "4x": 1, "x4": 0, "-1": 0, "+1": 0, " 1": 0, "1 ": 1, "12.5": 2, "1_0": 1, "9/": 1, "9:": 1, "12é3": 2, "1\xff2": 1, "1\x00": 1, "٣": 0} {
		if got, why, at := Read(s); got != nil || why != api.ErrDigits || at != place {
			t.Errorf("1.2: Read(%q) = %v, %d, %d", s, got, why, at)
		}
	}
	for in, want := range map[string][]uint32{"0": {0, 0}, "4294967296": {0, 1, 0}, "10": {10}, "1000000000": {1000000000}} {
		if got := Print(want); got != in {
			t.Errorf("1.2: Print(%v) = %s", want, got)
		}
	}
	if Print(nil) != "0" {
		t.Error("1.2: Print of nought")
	}
}

func TestReadPrintLong(t *testing.T) {
	for _, n := range []int{1, 9, 10, 18, 19, leafDigits - 1, leafDigits, leafDigits + 1, 2 * leafDigits, 2*leafDigits + 1, 20000} {
		for _, s := range []string{strings.Repeat("9", n), "1" + strings.Repeat("0", n), strings.Repeat("1203", n), "5" + strings.Repeat("0", n) + "1"} {
			want, _ := new(big.Int).SetString(s, 10)
			got, why, at := Read("00" + s)
			if !isRight(got, want) || why != api.OK || at != 0 {
				t.Fatalf("1.2: Read of %d digits", len(s))
			}
			if Print(append(got, 0)) != s {
				t.Fatalf("1.2: Print of %d digits", len(s))
			}
		}
	}
	if _, why, at := Read(strings.Repeat("7", 5000) + "-"); why != api.ErrDigits || at != 5000 {
		t.Error("1.2: a fault behind many digits")
	}
}

func TestCmpLenBit(t *testing.T) {
	pairs(func(a, b []uint32) {
		if got := Cmp(a, b); got != toBig(a).Cmp(toBig(b)) {
			t.Fatalf("1.3: Cmp(%v, %v) = %d", a, b, got)
		}
		if Cmp(a, append(slices.Clone(a), 0)) != 0 {
			t.Fatalf("1.3: Cmp of %v with itself", a)
		}
		if got := Len(a); got != toBig(a).BitLen() {
			t.Fatalf("1.3: Len(%v) = %d", a, got)
		}
		for n := range 32*len(a) + 40 {
			if Bit(a, n) != (toBig(a).Bit(n) == 1) {
				t.Fatalf("1.3: Bit(%v, %d)", a, n)
			}
		}
	})
	for _, n := range []int{-1, -32, math.MinInt, math.MaxInt, 64} {
		if Bit([]uint32{limbMost, limbMost}, n) || Bit(nil, n) {
			t.Errorf("1.3: Bit at %d", n)
		}
	}
	if Len(nil) != 0 || Len([]uint32{0, 0}) != 0 || Len([]uint32{0, 1, 0}) != 33 {
		t.Error("1.3: Len")
	}
}

func TestSumsAndProducts(t *testing.T) {
	pairs(func(a, b []uint32) {
		x, y := toBig(a), toBig(b)
		if !isRight(Add(a, b), new(big.Int).Add(x, y)) {
			t.Fatalf("1.4: Add(%v, %v)", a, b)
		}
		if !isRight(Mul(a, b), new(big.Int).Mul(x, y)) {
			t.Fatalf("1.4: Mul(%v, %v)", a, b)
		}
		d, why := Sub(a, b)
		if x.Cmp(y) < 0 && (d != nil || why != api.ErrLess) {
			t.Fatalf("1.4: Sub(%v, %v) = %v, %d", a, b, d, why)
		}
		if x.Cmp(y) >= 0 && (!isRight(d, new(big.Int).Sub(x, y)) || why != api.OK) {
			t.Fatalf("1.4: Sub(%v, %v) = %v, %d", a, b, d, why)
		}
	})
	if got, why := Sub([]uint32{0, 0, 0, 1}, []uint32{1}); !slices.Equal(got, []uint32{limbMost, limbMost, limbMost}) || why != api.OK {
		t.Error("1.4: a borrow over many limbs")
	}
}

func TestDivMod(t *testing.T) {
	try := func(a, b []uint32) {
		q, r, why := DivMod(a, b)
		if toBig(b).Sign() == 0 {
			if q != nil || r != nil || why != api.ErrZero {
				t.Fatalf("1.4: DivMod(%v, %v) = %v, %v, %d", a, b, q, r, why)
			}
			return
		}
		x, y := new(big.Int).QuoRem(toBig(a), toBig(b), new(big.Int))
		if !isRight(q, x) || !isRight(r, y) || why != api.OK {
			t.Fatalf("1.4: DivMod(%v, %v) = %v, %v, %d", a, b, q, r, why)
		}
	}
	pairs(try)
	// Multiples, and those less one: here the guess of a limb is most often too great.
	pairs(func(a, b []uint32) {
		p := Mul(a, b)
		try(p, b)
		if less, why := Sub(p, []uint32{1}); why == api.OK {
			try(less, b)
		}
	})
	// Here the guess is still too great behind the second limb.
	try([]uint32{0, 0, 1 << 31, 1<<31 - 1}, []uint32{1, 0, 1 << 31})
	try([]uint32{3, 0, 1 << 31}, []uint32{1, 0, 1 << 29})
	try([]uint32{0, limbMost - 1, 1 << 31}, []uint32{limbMost, 1 << 31})
	try([]uint32{7}, nil)
	try(nil, []uint32{0, 0})
}

func TestGcd(t *testing.T) {
	r := source()
	pairs(func(a, b []uint32) {
		c := someLimbs(r, 4)
		x, y := Mul(a, c), Mul(b, c)
		if got := Gcd(append(x, 0), y); !isRight(got, new(big.Int).GCD(nil, nil, toBig(x), toBig(y))) {
			t.Fatalf("1.4: Gcd(%v, %v) = %v", x, y, got)
		}
	})
	// Neighbours among Fibonacci's numbers take the most steps, with all quotients 1.
	a, b := From(1), From(1)
	for range 3000 {
		a, b = Add(a, b), a
		if got := Gcd(a, b); !slices.Equal(got, []uint32{1}) {
			t.Fatalf("1.4: Gcd of Fibonacci's numbers = %v", got)
		}
	}
	// Numbers whose highest 62 bits come, step by step, to two that are nearly the same: there the lower bits decide.
	for i := range 20000 {
		y := r.Uint64() >> (64 - 30 - r.IntN(20))
		x := y + uint64(r.IntN(4))
		for x < 1<<61 {
			q := max(1, min(uint64(1+r.IntN(3)), (1<<62-1-y)/x))
			x, y = q*x+y, x
		}
		if x >= 1<<62 {
			continue
		}
		noise := [2]uint32{0, limbMost}
		a := append([]uint32{noise[i%2], noise[i%2], noise[i%2]}, From(x)...)
		b := append([]uint32{noise[1-i%2], noise[1-i%2], noise[1-i%2]}, From(y)...)
		if got := Gcd(a, b); !isRight(got, new(big.Int).GCD(nil, nil, toBig(a), toBig(b))) {
			t.Fatalf("1.4: Gcd(%v, %v) = %v", a, b, got)
		}
	}
	for _, c := range []struct{ a, b, want []uint32 }{
		{nil, nil, nil}, {[]uint32{0}, []uint32{0, 0}, nil}, {nil, []uint32{5, 6, 7, 0}, []uint32{5, 6, 7}}, {[]uint32{9}, nil, []uint32{9}}, {[]uint32{12}, []uint32{18}, []uint32{6}},
	} {
		if got := Gcd(c.a, c.b); !slices.Equal(got, c.want) {
			t.Errorf("1.4: Gcd(%v, %v) = %v", c.a, c.b, got)
		}
	}
}

func TestPow(t *testing.T) {
	for _, c := range []struct {
		a   []uint32
		n   int
		why api.Errno
	}{
		{nil, 0, api.OK}, {[]uint32{0}, 0, api.OK}, {nil, 1, api.OK}, {nil, api.MaxPow, api.OK}, {[]uint32{7}, 0, api.OK}, {[]uint32{7}, 1, api.OK},
		{[]uint32{2}, 33, api.OK}, {[]uint32{10, 0}, 300, api.OK}, {[]uint32{1}, api.MaxPow, api.OK}, {[]uint32{3}, api.MaxPow / 2, api.OK}, {[]uint32{0, 1 << 31}, api.MaxPow / 64, api.OK},
		{[]uint32{2}, api.MaxPow/2 + 1, api.ErrMany}, {[]uint32{7}, api.MaxPow/3 + 1, api.ErrMany}, {[]uint32{7}, api.MaxPow / 3, api.OK}, {[]uint32{0, 0, 1}, api.MaxPow, api.ErrMany}, {slices.Repeat([]uint32{limbMost}, api.MaxPow/32), 1, api.OK}, {slices.Repeat([]uint32{1}, api.MaxPow/32+1), 1, api.ErrMany}, {slices.Repeat([]uint32{1}, api.MaxPow), 0, api.OK},
		{[]uint32{1}, api.MaxPow + 1, api.ErrRange}, {nil, api.MaxPow + 1, api.ErrRange}, {[]uint32{2}, -1, api.ErrRange}, {[]uint32{2}, math.MinInt, api.ErrRange}, {[]uint32{5, 5}, math.MaxInt, api.ErrRange},
	} {
		got, why := Pow(c.a, c.n)
		if why != c.why || why != api.OK && got != nil {
			t.Errorf("1.4: Pow of %d bits to the %d: error %d", Len(c.a), c.n, why)
		}
		if why == api.OK && !isRight(got, new(big.Int).Exp(toBig(c.a), big.NewInt(int64(c.n)), nil)) {
			t.Errorf("1.4: Pow of %d bits to the %d", Len(c.a), c.n)
		}
	}
}

func TestUpDown(t *testing.T) {
	r := source()
	for _, n := range []int{0, 1, 31, 32, 33, 63, 64, 65, 1000, api.MaxShift - 1, api.MaxShift} {
		for range 20 {
			a := someLimbs(r, 6)
			up, why := Up(a, n)
			if !isRight(up, new(big.Int).Lsh(toBig(a), uint(n))) || why != api.OK {
				t.Errorf("1.5: Up(%v, %d): error %d", a, n, why)
			}
			for _, x := range [][]uint32{a, up} {
				down, why := Down(x, n)
				if !isRight(down, new(big.Int).Rsh(toBig(x), uint(n))) || why != api.OK {
					t.Errorf("1.5: Down of %d bits by %d: error %d", Len(x), n, why)
				}
			}
		}
	}
	for _, n := range []int{-1, api.MaxShift + 1, math.MinInt, math.MaxInt} {
		up, upWhy := Up([]uint32{5}, n)
		down, downWhy := Down([]uint32{5}, n)
		if up != nil || down != nil || upWhy != api.ErrRange || downWhy != api.ErrRange {
			t.Errorf("1.5: Up and Down by %d: errors %d, %d", n, upWhy, downWhy)
		}
	}
}

package order

import (
	"math"
	"math/big"
	"math/rand/v2"
	"testing"

	"thicket/api"
)

func source() *rand.Rand { return rand.New(rand.NewPCG(11, 12)) }

var (
	endless = math.Inf(1)
	minus0  = math.Copysign(0, -1)
	least   = math.SmallestNonzeroFloat64
)

// nans have any bits: quiet ones and others, of both signs.
func nans() []float64 {
	var l []float64
	for _, word := range []uint64{0x7ff0000000000001, 0x7ff0000000000002, 0x7ff0000020000000, 0x7ff7ffffffffffff, 0x7ff8000000000000, 0x7ff8000000000001, 0x7fffffffffffffff, 0xfff0000000000001, 0xfff000001fffffff, 0xfff4000000000000, 0xfff8000000000000, 0xffffffffffffffff} {
		l = append(l, math.Float64frombits(word))
	}
	return l
}

// grid are binary32 numbers: the edges of the format, and many others of all sizes.
func grid(many int) []float32 {
	var l []float32
	for _, word := range []uint32{0, 1, 2, 3, 1<<22 - 1, 1 << 22, 1<<23 - 2, 1<<23 - 1, 1 << 23, 1<<23 + 1, 1 << 24, 0x3dcccccc, 0x3dcccccd, 0x3f7fffff, 0x3f800000, 0x3f800001, 254<<23 - 1, 254 << 23, 255<<23 - 2, 255<<23 - 1, 255 << 23} {
		l = append(l, math.Float32frombits(word), math.Float32frombits(word|1<<31))
	}
	for r := source(); len(l) < many; {
		if x := math.Float32frombits(r.Uint32()); x == x {
			l = append(l, x)
		}
	}
	return l
}

// numbers are binary64 numbers but NaN: the edges of the format and what is beside them; what is on the grid of the binary32 numbers, just beside it, and half way between two of it; and many others.
func numbers(many int) []float64 {
	var l []float64
	add := func(v float64) {
		if v == v {
			l = append(l, v, -v)
		}
	}
	around := func(v float64) {
		add(v)
		add(math.Nextafter(v, endless))
		add(math.Nextafter(v, -endless))
	}
	for _, word := range []uint64{0, 1, 2, 1<<51 - 1, 1 << 51, 1<<52 - 1, 1 << 52, 1<<53 - 1, 1 << 53, 0x3ff0000000000000, 0x3fb999999999999a, 2046 << 52, 2047<<52 - 1, 2047 << 52} {
		around(math.Float64frombits(word))
	}
	for _, v := range []float64{0.1, 1, 1.5, 1e300, 1e-300, 2.25, 1 << 24, 1<<24 + 1, 1<<53 + 2} {
		around(v)
	}
	for _, x := range grid(many / 16) {
		next := float64(math.Nextafter32(x, float32(endless)))
		if math.IsInf(next, 1) {
			next = 0x1p128 // where the next one would be, were there room
		}
		around(float64(x))
		around((float64(x) + next) / 2)
	}
	for r := source(); len(l) < many; {
		add(math.Float64frombits(r.Uint64()))
		add(r.NormFloat64())
	}
	return l
}

func sameBits(a, b float64) bool { return math.Float64bits(a) == math.Float64bits(b) }

// keyByBig is a key by the chapter's words, in numbers that can not wrap.
func keyByBig(v float64) *big.Int {
	m := new(big.Int).Lsh(big.NewInt(2047), 52)
	amount := new(big.Int).SetUint64(math.Float64bits(math.Abs(v)))
	if v < 0 {
		amount.Neg(amount)
	}
	return m.Add(m, amount)
}

func TestKey(t *testing.T) {
	for _, c := range []struct {
		v    float64
		want uint64
	}{
		{-endless, 0}, {-math.MaxFloat64, 1}, {-least, 9218868437227405311}, {minus0, 9218868437227405312}, {0, 9218868437227405312}, {least, 9218868437227405313}, {1, 9218868437227405312 + 0x3ff0000000000000}, {-1, 9218868437227405312 - 0x3ff0000000000000}, {math.MaxFloat64, 18437736874454810623}, {endless, 18437736874454810624},
	} {
		if k := Key(c.v); k != c.want {
			t.Errorf("P6.1: Key(%g) = %d", c.v, k)
		}
	}
	for _, v := range nans() {
		if k := Key(v); k != 18437736874454810625 {
			t.Errorf("P6.1: Key of the NaN %x = %d", math.Float64bits(v), k)
		}
	}
	for _, v := range numbers(20000) {
		if k := Key(v); keyByBig(v).Cmp(new(big.Int).SetUint64(k)) != 0 {
			t.Fatalf("P6.1: Key(%g) = %d", v, k)
		}
	}
}

func TestAt(t *testing.T) {
	for _, c := range []struct {
		k    uint64
		want float64
	}{
		{0, -endless}, {1, -math.MaxFloat64}, {9218868437227405311, -least}, {9218868437227405312, 0}, {9218868437227405313, least}, {18437736874454810623, math.MaxFloat64}, {18437736874454810624, endless},
	} {
		if v, why := At(c.k); !sameBits(v, c.want) || why != api.OK {
			t.Errorf("P6.1: At(%d) = %g, %d", c.k, v, why)
		}
	}
	if v, why := At(18437736874454810625); v == v || why != api.OK {
		t.Errorf("P6.1: At(2 M + 1) = %g, %d", v, why)
	}
	for _, k := range []uint64{18437736874454810626, 18437736874454810627, 1<<64 - 2, 1<<64 - 1} {
		if v, why := At(k); !sameBits(v, 0) || why != api.ErrRange {
			t.Errorf("P6.1: At(%d) = %g, %d", k, v, why)
		}
	}
}

func TestOneLine(t *testing.T) {
	for _, v := range numbers(20000) {
		want := v
		if v == 0 {
			want = 0
		}
		if back, why := At(Key(v)); !sameBits(back, want) || why != api.OK {
			t.Fatalf("P6.7: At(Key(%g)) = %g, %d", v, back, why)
		}
	}
	for _, v := range nans() {
		if back, why := At(Key(v)); back == back || why != api.OK {
			t.Errorf("P6.7: At(Key(NaN)) = %g, %d", back, why)
		}
	}
	r := source()
	for range 20000 {
		k := r.Uint64N(18437736874454810626)
		if v, why := At(k); why != api.OK || Key(v) != k {
			t.Fatalf("P6.7: Key(At(%d)) = %d, %d", k, Key(v), why)
		}
	}
}

func TestCompare(t *testing.T) {
	l := numbers(20000)
	for i, a := range l {
		for _, b := range []float64{a, -a, l[(i+1)%len(l)], l[(i*7+3)%len(l)], 0, minus0, endless, -endless} {
			want := 0
			switch {
			case a < b:
				want = -1
			case a > b:
				want = 1
			}
			if Compare(a, b) != want {
				t.Fatalf("P6.2, P6.7: Compare(%g, %g) = %d", a, b, Compare(a, b))
			}
		}
	}
	for _, n := range nans() {
		for _, v := range []float64{-endless, -1, minus0, 0, least, 1, math.MaxFloat64, endless} {
			if Compare(n, v) != 1 || Compare(v, n) != -1 {
				t.Errorf("P6.2: Compare of the NaN %x and %g = %d, %d", math.Float64bits(n), v, Compare(n, v), Compare(v, n))
			}
		}
		for _, m := range nans() {
			if Compare(n, m) != 0 {
				t.Errorf("P6.2: Compare of two NaNs = %d", Compare(n, m))
			}
		}
	}
}

func TestNextPrevExamples(t *testing.T) {
	for _, c := range []struct {
		name string
		call func(float64) (float64, api.Errno)
		v    float64
		want float64
		why  api.Errno
	}{
		{"Next", Next, 0, least, 0}, {"Next", Next, minus0, least, 0}, {"Next", Next, -least, 0, 0}, {"Next", Next, endless, 0, api.ErrEnd}, {"Next", Next, 1, math.Float64frombits(0x3ff0000000000001), 0}, {"Next", Next, math.MaxFloat64, endless, 0}, {"Next", Next, -endless, -math.MaxFloat64, 0},
		{"Prev", Prev, minus0, -least, 0}, {"Prev", Prev, 0, -least, 0}, {"Prev", Prev, least, 0, 0}, {"Prev", Prev, -endless, 0, api.ErrEnd}, {"Prev", Prev, 1, math.Float64frombits(0x3fefffffffffffff), 0}, {"Prev", Prev, -math.MaxFloat64, -endless, 0}, {"Prev", Prev, endless, math.MaxFloat64, 0},
	} {
		if v, why := c.call(c.v); !sameBits(v, c.want) || why != c.why {
			t.Errorf("P6.3: %s(%g) = %g, %d", c.name, c.v, v, why)
		}
	}
	for _, n := range nans() {
		next, why := Next(n)
		prev, whyPrev := Prev(n)
		if !sameBits(next, 0) || !sameBits(prev, 0) || why != api.ErrNaN || whyPrev != api.ErrNaN {
			t.Errorf("P6.3: Next, Prev of a NaN = %g, %d, %g, %d", next, why, prev, whyPrev)
		}
	}
}

func TestNeighbours(t *testing.T) {
	for _, v := range numbers(20000) {
		if v < endless {
			next, why := Next(v)
			back, whyBack := Prev(next)
			if why != api.OK || next != math.Nextafter(v, endless) || sameBits(next, minus0) || back != v || sameBits(back, minus0) || whyBack != api.OK {
				t.Fatalf("P6.8: Next(%g) = %g, %d; Prev of it %g", v, next, why, back)
			}
			if n, _ := Between(v, next); n != 2 || Key(next) != Key(v)+1 {
				t.Fatalf("P6.8: from %g to %g there are %d", v, next, n)
			}
		}
		if v > -endless {
			prev, why := Prev(v)
			back, whyBack := Next(prev)
			if why != api.OK || prev != math.Nextafter(v, -endless) || sameBits(prev, minus0) || back != v || whyBack != api.OK {
				t.Fatalf("P6.8: Prev(%g) = %g, %d; Next of it %g", v, prev, why, back)
			}
		}
	}
}

func TestMiddleExamples(t *testing.T) {
	for _, c := range []struct {
		a, b, want float64
		why        api.Errno
	}{
		{0, endless, 1.5, 0}, {-endless, endless, 0, 0}, {1, 0, 0, api.ErrRange}, {0, 0, 0, 0}, {minus0, 0, 0, 0}, {0, minus0, 0, 0}, {0, least, 0, 0}, {-least, 0, -least, 0}, {-least, least, 0, 0}, {0, 2 * least, least, 0}, {endless, endless, endless, 0}, {-endless, -endless, -endless, 0}, {math.MaxFloat64, endless, math.MaxFloat64, 0}, {endless, -endless, 0, api.ErrRange}, {least, 0, 0, api.ErrRange}, {0, -least, 0, api.ErrRange}, {-endless, 0, -1.5, 0}, {1, 2, 1.5, 0},
	} {
		if v, why := Middle(c.a, c.b); !sameBits(v, c.want) || why != c.why {
			t.Errorf("P6.3: Middle(%g, %g) = %g, %d", c.a, c.b, v, why)
		}
	}
	for _, n := range nans() {
		for _, v := range []float64{0, endless, -endless, math.NaN()} {
			left, why := Middle(n, v)
			right, whyRight := Middle(v, n)
			if !sameBits(left, 0) || !sameBits(right, 0) || why != api.ErrNaN || whyRight != api.ErrNaN {
				t.Errorf("P6.3: Middle of a NaN and %g = %g, %d, %g, %d", v, left, why, right, whyRight)
			}
		}
	}
}

func TestMiddleBetween(t *testing.T) {
	l := numbers(20000)
	for i, a := range l {
		b := l[(i*13+5)%len(l)]
		if i%3 == 0 {
			b = math.Nextafter(a, endless)
		}
		from, to := keyByBig(a), keyByBig(b)
		middle, why := Middle(a, b)
		many, whyMany := Between(a, b)
		if whyMany != api.OK {
			t.Fatalf("P6.3: Between(%g, %g): %d", a, b, whyMany)
		}
		if a > b {
			if !sameBits(middle, 0) || why != api.ErrRange || many != 0 {
				t.Fatalf("P6.3: Middle(%g, %g) = %g, %d; Between %d", a, b, middle, why, many)
			}
			continue
		}
		sum := new(big.Int).Add(from, to)
		if why != api.OK || keyByBig(middle).Cmp(sum.Rsh(sum, 1)) != 0 || sameBits(middle, minus0) {
			t.Fatalf("P6.3: Middle(%g, %g) = %g, %d", a, b, middle, why)
		}
		if middle < a || middle > b || middle == b && a != b {
			t.Fatalf("P6.8: Middle(%g, %g) = %g", a, b, middle)
		}
		want := to.Sub(to, from)
		if want.Add(want, big.NewInt(1)).Cmp(new(big.Int).SetUint64(many)) != 0 {
			t.Fatalf("P6.3: Between(%g, %g) = %d", a, b, many)
		}
	}
}

func TestBetweenExamples(t *testing.T) {
	for _, c := range []struct {
		a, b float64
		want uint64
	}{
		{minus0, 0, 1}, {0, minus0, 1}, {0, least, 2}, {1, 0, 0}, {-least, least, 3}, {-endless, endless, 18437736874454810625}, {endless, -endless, 0}, {endless, endless, 1}, {-endless, -endless, 1}, {math.MaxFloat64, endless, 2}, {1, 2, 1<<52 + 1}, {least, minus0, 0},
	} {
		if n, why := Between(c.a, c.b); n != c.want || why != api.OK {
			t.Errorf("P6.3: Between(%g, %g) = %d, %d", c.a, c.b, n, why)
		}
	}
	for _, v := range nans() {
		for _, w := range []float64{0, endless, -endless, math.NaN()} {
			left, why := Between(v, w)
			right, whyRight := Between(w, v)
			if left != 0 || right != 0 || why != api.ErrNaN || whyRight != api.ErrNaN {
				t.Errorf("P6.3: Between a NaN and %g = %d, %d, %d, %d", w, left, why, right, whyRight)
			}
		}
	}
}

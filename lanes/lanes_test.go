package lanes

import (
	"fmt"
	"math"
	"math/rand/v2"
	"reflect"
	"slices"
	"testing"

	"thicket/api"
)

var (
	nan     = math.NaN()
	endless = math.Inf(1)
	minus0  = math.Copysign(0, -1)
)

func source() *rand.Rand { return rand.New(rand.NewPCG(18, 18)) }

// nans are NaNs of all kinds of bits: quiet and signalling ones, of both signs, with little and with much behind.
func nans() []float64 {
	l := []float64{nan}
	for _, sign := range []uint64{0, 1 << 63} {
		for _, rest := range []uint64{1, 2, 0x123456789, 1<<51 - 1, 1 << 51, 1<<51 + 1, 1 << 50, 1<<52 - 1} {
			l = append(l, math.Float64frombits(sign|0x7ff<<52|rest))
		}
	}
	for i := range 52 {
		l = append(l, math.Float64frombits(0x7ff<<52|1<<i), math.Float64frombits(0xfff<<52|1<<i))
	}
	return l
}

// equal tells whether vectors are the same bit for bit, NaNs too.
func equal(a, b []float64) bool {
	return slices.EqualFunc(a, b, func(x, y float64) bool { return math.Float64bits(x) == math.Float64bits(y) })
}

func equals(a, b [][]float64) bool { return slices.EqualFunc(a, b, equal) }

// some are so many vectors of d numbers, no two numbers alike.
func some(many, d int) [][]float64 {
	var l [][]float64
	for i := range many {
		x := make([]float64, d)
		for k := range x {
			x[k] = float64(i*d + k + 1)
		}
		l = append(l, x)
	}
	return l
}

func TestExamples(t *testing.T) {
	g, why := Pack([][]float64{{1, 2}, {3, 4}}, 2)
	if why != api.OK || !reflect.DeepEqual(g, [][]api.Lane{{{1, 3, 3, 3, 3, 3, 3, 3}, {2, 4, 4, 4, 4, 4, 4, 4}}}) {
		t.Error("P18.1: example 1:", g, why)
	}
	if l, why := Unpack(g, 2, 2); why != api.OK || !equals(l, [][]float64{{1, 2}, {3, 4}}) {
		t.Error("P18.1: example 1:", l, why)
	}
	if l, why := Unpack(g, 9, 2); why != api.ErrSize || l != nil {
		t.Error("P18.1: example 1:", l, why)
	}
	if g, why := Pack(nil, 2); why != api.OK || len(g) != 0 {
		t.Error("P18.1: example 1:", g, why)
	}
	if g, why := Pack([][]float64{{1}}, 2); why != api.ErrVector || g != nil {
		t.Error("P18.1: example 1:", g, why)
	}
	if g, why := Pack(some(9, 2), 2); why != api.OK || len(g) != 2 {
		t.Error("P18.1: example 1:", g, why)
	}
	x := api.Lane{nan, 1, 2, 3, 4, 4.5, minus0, 0}
	if a, b, c, d := Above(x, 2), Above(x, nan), Outside(x, []int{0, 4}), Lost(x); a != 0x38 || b != 0 || c != 0x2e || d != 1 {
		t.Errorf("P18.2: example 2: %x %x %x %x", a, b, c, d)
	}
	s := scorer(t, pair(), 2)
	l := [][]float64{{4, 1}, {5, 1.5}, {nan, nan}}
	says(t, "P18.4: example 3", s, l, [][]int64{{111}, {113}, {122}}, [][]int{{0, 0}, {0, 2}, {1, 1}})
	works(t, "P18.4: example 3", s, l, 5)
	refused(t, "P18.4: example 4", s, [][]float64{{4, 1}, {1}}, api.ErrVector, 1)
	says(t, "P18.4: example 4", s, nil, nil, nil)
}

// Each lane of each group, however many vectors there are: behind the last one it stands again.
func TestPack(t *testing.T) {
	for _, many := range []int{0, 1, 2, 7, 8, 9, 15, 16, 17, 24, 25, 100} {
		for _, d := range []int{0, 1, 2, 5} {
			what := fmt.Sprintf("P18.1: %d vectors of %d", many, d)
			l := some(many, d)
			g, why := Pack(l, d)
			if why != api.OK || len(g) != (many+7)/8 {
				t.Errorf("%s: %d groups, %d", what, len(g), why)
				continue
			}
			for i, lanes := range g {
				if len(lanes) != d {
					t.Errorf("%s: %d lanes", what, len(lanes))
				}
				for k, lane := range lanes {
					for j, v := range lane {
						if of := l[min(8*i+j, many-1)]; v != of[k] {
							t.Errorf("%s: group %d, feature %d, lane %d: %v, not %v", what, i, k, j, v, of[k])
						}
					}
				}
			}
			if back, why := Unpack(g, many, d); why != api.OK || !equals(back, l) {
				t.Errorf("P18.7: %s: %v, %d", what, back, why)
			}
		}
	}
	for _, none := range [][][]float64{nil, {}} {
		if g, why := Pack(none, 0); why != api.OK || len(g) != 0 {
			t.Error("P18.1: no vectors:", g, why)
		}
	}
	if g, why := Pack([][]float64{nil, {}, nil}, 0); why != api.OK || len(g) != 1 || len(g[0]) != 0 {
		t.Error("P18.1: vectors without a number:", g, why)
	}
}

func TestPackErrors(t *testing.T) {
	for _, d := range []int{-1, api.MaxFeatures + 1, math.MinInt, math.MaxInt} {
		for _, l := range [][][]float64{nil, {}, {{1}}, {{1}, {1, 2}}, {make([]float64, api.MaxFeatures+1)}} {
			if g, why := Pack(l, d); why != api.ErrRange || g != nil {
				t.Errorf("P18.1: Pack of %d vectors, %d: %v, %d", len(l), d, g, why)
			}
		}
		for _, g := range [][][]api.Lane{nil, {}, {{{1}}}, {nil}, {make([]api.Lane, api.MaxFeatures+1)}} {
			for _, n := range []int{-1, 0, 1, 8, 9} {
				if l, why := Unpack(g, n, d); why != api.ErrRange || l != nil {
					t.Errorf("P18.1: Unpack of %d groups, %d, %d: %v, %d", len(g), n, d, l, why)
				}
			}
		}
	}
	for _, d := range []int{0, 1, 3, 100} {
		for _, many := range []int{1, 7, 8, 9, 17} {
			for _, at := range []int{0, many / 2, many - 1} {
				for _, length := range []int{d - 1, d + 1, 2 * d, 0} {
					if length < 0 || length == d {
						continue
					}
					l := some(many, d)
					l[at] = make([]float64, length)
					if g, why := Pack(l, d); why != api.ErrVector || g != nil {
						t.Errorf("P18.1: vector %d of %d has %d numbers, not %d: %v, %d", at, many, length, d, g, why)
					}
				}
			}
		}
	}
	most := some(9, api.MaxFeatures)
	g, why := Pack(most, api.MaxFeatures)
	if why != api.OK || len(g) != 2 || len(g[1]) != api.MaxFeatures || g[1][api.MaxFeatures-1][7] != most[8][api.MaxFeatures-1] {
		t.Error("P18.1: as many numbers as there may be:", why)
	}
	if back, why := Unpack(g, 9, api.MaxFeatures); why != api.OK || !equals(back, most) {
		t.Error("P18.7: as many numbers as there may be:", why)
	}
	most[8] = append(most[8], 1)
	if g, why := Pack(most, api.MaxFeatures); why != api.ErrVector || g != nil {
		t.Error("P18.1: one more in the last vector:", why)
	}
}

func TestUnpack(t *testing.T) {
	groups := func(n, d int) [][]api.Lane {
		g, _ := Pack(some(8*n, d), d)
		return g
	}
	for _, d := range []int{0, 1, 3} {
		for many := range 4 {
			for n := range 34 {
				g := groups(many, d)
				l, why := Unpack(g, n, d)
				switch {
				case (n+7)/8 != many && (why != api.ErrSize || l != nil):
					t.Errorf("P18.1: %d groups, %d vectors: %v, %d", many, n, l, why)
				case (n+7)/8 == many && (why != api.OK || len(l) != n || !equals(l, some(8*many, d)[:n])):
					t.Errorf("P18.1: the first %d of %d groups: %v, %d", n, many, l, why)
				}
			}
			for _, n := range []int{math.MaxInt, math.MaxInt - 6, math.MaxInt - 7, 1 << 40} {
				if l, why := Unpack(groups(many, d), n, d); why != api.ErrSize || l != nil {
					t.Errorf("P18.1: %d groups, %d vectors: %v, %d", many, n, l, why)
				}
			}
			for _, n := range []int{-1, -8, -9, math.MinInt, math.MinInt + 1} {
				if l, why := Unpack(groups(many, d), n, d); why != api.ErrRange || l != nil {
					t.Errorf("P18.1: %d groups, %d vectors: %v, %d", many, n, l, why)
				}
			}
			for at := range many {
				for _, lanes := range []int{d - 1, d + 1, d + 7} {
					if lanes < 0 {
						continue
					}
					g := groups(many, d)
					g[at] = make([]api.Lane, lanes)
					if l, why := Unpack(g, 8*many, d); why != api.ErrSize || l != nil {
						t.Errorf("P18.1: group %d of %d has %d lanes, not %d: %v, %d", at, many, lanes, d, l, why)
					}
				}
			}
		}
	}
	for _, none := range [][][]api.Lane{nil, {}} {
		if l, why := Unpack(none, 0, 5); why != api.OK || len(l) != 0 {
			t.Error("P18.1: no groups:", l, why)
		}
	}
	if l, why := Unpack([][]api.Lane{{}, nil}, 10, 0); why != api.OK || len(l) != 10 || len(l[9]) != 0 {
		t.Error("P18.1: groups without a lane:", l, why)
	}
}

// Turned around and back, bit for bit, whatever the numbers are.
func TestTurnedAround(t *testing.T) {
	r := source()
	odd := append(nans(), 0, minus0, endless, -endless, 5e-324, math.MaxFloat64)
	for range 1000 {
		d, many := r.IntN(6), r.IntN(30)
		l := some(many, d)
		for _, x := range l {
			for k := range x {
				if x[k] = math.Float64frombits(r.Uint64()); r.IntN(2) == 0 {
					x[k] = odd[r.IntN(len(odd))]
				}
			}
		}
		g, why := Pack(l, d)
		back, no := Unpack(g, many, d)
		if why != api.OK || no != api.OK || !equals(back, l) {
			t.Fatalf("P18.7: %v: %v, %d, %d", l, back, why, no)
		}
		again, _ := Pack(back, d)
		if !slices.EqualFunc(again, g, func(a, b []api.Lane) bool {
			return slices.EqualFunc(a, b, func(x, y api.Lane) bool { return equal(x[:], y[:]) })
		}) {
			t.Fatalf("P18.7: %v: %v, not %v", l, again, g)
		}
	}
}

// one is a lane that has v at one place, and another number at all others.
func one(at int, v, others float64) api.Lane {
	x := api.Lane{others, others, others, others, others, others, others, others}
	x[at] = v
	return x
}

func TestAbove(t *testing.T) {
	up := func(v float64) float64 { return math.Nextafter(v, endless) }
	down := func(v float64) float64 { return math.Nextafter(v, -endless) }
	for _, c := range []struct {
		threshold float64
		above     []float64
		not       []float64
	}{
		{0.5, []float64{up(0.5), 1, endless, math.MaxFloat64}, []float64{0.5, down(0.5), 0, -1, -endless, nan}},
		{0, []float64{5e-324, endless}, []float64{0, minus0, -5e-324, -endless, nan}},
		{minus0, []float64{5e-324, endless}, []float64{0, minus0, -5e-324, -endless, nan}},
		{endless, nil, []float64{endless, math.MaxFloat64, 0, -endless, nan}},
		{-endless, []float64{-math.MaxFloat64, 0, endless}, []float64{-endless, nan}},
		{math.MaxFloat64, []float64{endless}, []float64{math.MaxFloat64, -endless, nan}},
		{nan, nil, []float64{nan, 0, minus0, 1, endless, -endless}},
	} {
		for at := range api.LaneWidth {
			for _, other := range c.not {
				for _, v := range c.above {
					if got := Above(one(at, v, other), c.threshold); got != 1<<at {
						t.Errorf("P18.2: Above(%v at %d, %v) = %08b", v, at, c.threshold, got)
					}
					if got := Above(one(at, other, v), c.threshold); got != ^uint8(1<<at) {
						t.Errorf("P18.2: Above(all but %d %v, %v) = %08b", at, v, c.threshold, got)
					}
				}
				if got := Above(one(at, other, c.not[0]), c.threshold); got != 0 {
					t.Errorf("P18.2: Above(%v at %d, %v) = %08b", other, at, c.threshold, got)
				}
			}
		}
	}
	for _, lost := range nans() {
		if a, b := Above(api.Lane{lost, 1, lost, 2, 3, endless, lost, -endless}, 1), Above(api.Lane{0, 1, endless, nan}, lost); a != 0x38 || b != 0 {
			t.Errorf("P18.2: %x: %08b, %08b", math.Float64bits(lost), a, b)
		}
	}
}

func TestOutside(t *testing.T) {
	up := func(v float64) float64 { return math.Nextafter(v, endless) }
	for _, c := range []struct {
		cats []int
		in   []float64
		out  []float64
	}{
		{nil, nil, []float64{0, minus0, 1, 0.5, endless, -endless}},
		{[]int{}, nil, []float64{0, minus0, 1}},
		{[]int{0}, []float64{0, minus0}, []float64{1, 5e-324, -5e-324, endless, -1}},
		{[]int{3}, []float64{3}, []float64{0, 2, 4, 3.5, up(3), -3, endless, -endless}},
		{[]int{1, 3, 1023}, []float64{1, 3, 1023}, []float64{0, 2, 1022, 1024, 1.5, -1}},
		{[]int{9, 3, 7, 3}, []float64{3, 7, 9}, []float64{0, 8, 3.25}}, // in any order, and twice
		{[]int{-5, 1 << 40}, []float64{-5, 1 << 40}, []float64{5, 1<<40 + 1, 0}},
		{[]int{1<<53 + 1}, []float64{1 << 53}, []float64{1<<53 + 2, 1<<53 - 1}}, // as a float64 it is 2^53
		{[]int{math.MaxInt, math.MinInt}, []float64{1 << 63, -1 << 63}, []float64{math.MaxInt64 / 2, endless, -endless}},
	} {
		for at := range api.LaneWidth {
			for _, out := range c.out {
				for _, in := range append(slices.Clone(c.in), nan) {
					if got := Outside(one(at, out, in), c.cats); got != 1<<at {
						t.Errorf("P18.2: Outside(%v at %d, else %v; %v) = %08b", out, at, in, c.cats, got)
					}
					if got := Outside(one(at, in, out), c.cats); got != ^uint8(1<<at) {
						t.Errorf("P18.2: Outside(%v at %d, else %v; %v) = %08b", in, at, out, c.cats, got)
					}
				}
			}
		}
	}
	many := make([]int, api.MaxCats)
	for i := range many {
		many[i] = i
	}
	if got := Outside(api.Lane{0, 1023, 1024, -1, 511, 511.5, nan, endless}, many); got != 0b10101100 {
		t.Errorf("P18.2: Outside of many = %08b", got)
	}
	for _, lost := range nans() {
		if got := Outside(api.Lane{lost, 1, lost, 2, lost, 3, lost, lost}, []int{2}); got != 0b00100010 {
			t.Errorf("P18.2: Outside with %x = %08b", math.Float64bits(lost), got)
		}
	}
}

func TestLost(t *testing.T) {
	for _, lost := range nans() {
		for at := range api.LaneWidth {
			for _, v := range []float64{0, minus0, 1, endless, -endless, math.MaxFloat64, 5e-324} {
				if got := Lost(one(at, lost, v)); got != 1<<at {
					t.Errorf("P18.2: Lost(%x at %d) = %08b", math.Float64bits(lost), at, got)
				}
				if got := Lost(one(at, v, lost)); got != ^uint8(1<<at) {
					t.Errorf("P18.2: Lost(all but %d) = %08b", at, got)
				}
			}
		}
	}
	if a, b := Lost(api.Lane{}), Lost(api.Lane{nan, nan, nan, nan, nan, nan, nan, nan}); a != 0 || b != 0xff {
		t.Errorf("P18.2: Lost of none and of all: %08b, %08b", a, b)
	}
}

// Every lane is in just one of three; Above falls as the threshold rises.
func TestLaws(t *testing.T) {
	r := source()
	odd := append(nans()[:5], 0, minus0, 0.5, 1, 2, 3, 4.5, -1, endless, -endless, 5e-324)
	for range 20000 {
		var x api.Lane
		for i := range x {
			x[i] = odd[r.IntN(len(odd))]
		}
		var cats []int
		for range r.IntN(4) {
			cats = append(cats, r.IntN(6)-1)
		}
		var in uint8
		for i, v := range x {
			if slices.ContainsFunc(cats, func(c int) bool { return v == float64(c) }) {
				in |= 1 << i
			}
		}
		lost, out := Lost(x), Outside(x, cats)
		if lost&out != 0 || lost&in != 0 || in&out != 0 || lost|out|in != 0xff {
			t.Fatalf("P18.8: %v, %v: %08b, %08b, %08b", x, cats, lost, out, in)
		}
		low, high := odd[r.IntN(len(odd))], odd[r.IntN(len(odd))]
		if low > high {
			low, high = high, low
		}
		if a, b := Above(x, low), Above(x, high); low <= high && b&^a != 0 || a&lost != 0 || b&lost != 0 {
			t.Fatalf("P18.8: %v, %v, %v: %08b, %08b", x, low, high, a, b)
		}
	}
}

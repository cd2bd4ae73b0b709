package order

import (
	"math"
	"math/big"
	"sort"
	"testing"

	"thicket/api"
)

const (
	most32  = math.MaxFloat32
	least32 = math.SmallestNonzeroFloat32
)

// gridAt is the binary32 of a place in their line, from -inf on, the noughts taken as one.
func gridAt(place int) float32 {
	const m = 255 << 23
	if place < m {
		return -math.Float32frombits(uint32(m - place))
	}
	return math.Float32frombits(uint32(place - m))
}

const gridSize = 2*255<<23 + 1

// ceilByHalving is the least binary32 that is not below v.
func ceilByHalving(v float64) float32 {
	return gridAt(sort.Search(gridSize, func(i int) bool { return float64(gridAt(i)) >= v }))
}

// floorByHalving is the greatest that is not above v.
func floorByHalving(v float64) float32 {
	return gridAt(sort.Search(gridSize, func(i int) bool { return float64(gridAt(i)) > v }) - 1)
}

func sameBits32(a, b float32) bool { return math.Float32bits(a) == math.Float32bits(b) }

func TestNarrow(t *testing.T) {
	for _, c := range []struct {
		v    float64
		want float32
	}{
		{0.1, math.Float32frombits(0x3dcccccd)}, {0, 0}, {minus0, float32(minus0)}, {1e-300, 0}, {-1e-300, float32(minus0)}, {endless, float32(endless)}, {-endless, float32(-endless)}, {1e300, float32(endless)}, {-1e300, float32(-endless)}, {least, 0}, {-least, float32(minus0)}, {math.MaxFloat64, float32(endless)},
		{1<<24 + 1, 1 << 24}, {1<<24 + 3, 1<<24 + 4}, {-(1<<24 + 1), -(1 << 24)}, {-(1<<24 + 3), -(1<<24 + 4)}, {0x1p-149, least32}, {0x1p-150, 0}, {0x1.0000000000001p-150, least32}, {0x3p-150, 2 * least32}, {0x1.fffffefp127, most32}, {0x1.ffffffp127, float32(endless)}, {0x1.fffffefffffffp127, most32}, {0x1.fffffp-127, 0x1.fffffp-127}, {0x1.ffffffp-127, 0x1p-126}, {0x1.fffffdp-127, 0x1.fffffcp-127},
	} {
		if x := Narrow(c.v); !sameBits32(x, c.want) {
			t.Errorf("P6.4: Narrow(%x) = %x", c.v, x)
		}
	}
	for _, v := range nans() {
		if x := Narrow(v); x == x {
			t.Errorf("P6.4: Narrow of the NaN %x = %g", math.Float64bits(v), x)
		}
	}
	for _, v := range numbers(100000) {
		if want, _ := big.NewFloat(v).Float32(); !sameBits32(Narrow(v), want) {
			t.Fatalf("P6.4: Narrow(%x) = %x, not %x", v, Narrow(v), want)
		}
	}
}

func TestFloorCeilExamples(t *testing.T) {
	for _, c := range []struct {
		v           float64
		floor, ceil float32
	}{
		{0.1, math.Float32frombits(0x3dcccccc), math.Float32frombits(0x3dcccccd)}, {1e300, most32, float32(endless)}, {-1e300, float32(-endless), -most32}, {1e-300, 0, least32}, {-1e-300, -least32, 0}, {0, 0, 0}, {minus0, 0, 0}, {least, 0, least32}, {-least, -least32, 0},
		{endless, float32(endless), float32(endless)}, {-endless, float32(-endless), float32(-endless)}, {math.MaxFloat64, most32, float32(endless)}, {-math.MaxFloat64, float32(-endless), -most32}, {most32, most32, most32}, {-most32, -most32, -most32}, {0x1.fffffe0000001p127, most32, float32(endless)}, {-0x1.fffffe0000001p127, float32(-endless), -most32},
		{0x1.fffffdfffffffp127, math.Float32frombits(255<<23 - 2), most32}, {0x1p-149, least32, least32}, {0x1.8p-150, 0, least32}, {-0x1.8p-150, -least32, 0}, {0x1.8p-149, least32, 2 * least32}, {-0x1.8p-149, -2 * least32, -least32}, {0x1p-150, 0, least32}, {-0x1p-150, -least32, 0}, {1<<24 + 1, 1 << 24, 1<<24 + 2}, {1<<24 + 3, 1<<24 + 2, 1<<24 + 4}, {1, 1, 1}, {-2.5, -2.5, -2.5},
	} {
		floor, why := Floor32(c.v)
		ceil, whyCeil := Ceil32(c.v)
		if !sameBits32(floor, c.floor) || !sameBits32(ceil, c.ceil) || why != api.OK || whyCeil != api.OK {
			t.Errorf("P6.4: Floor32(%x) = %x, %d; Ceil32 = %x, %d", c.v, floor, why, ceil, whyCeil)
		}
	}
	for _, v := range nans() {
		floor, why := Floor32(v)
		ceil, whyCeil := Ceil32(v)
		if !sameBits32(floor, 0) || !sameBits32(ceil, 0) || why != api.ErrNaN || whyCeil != api.ErrNaN {
			t.Errorf("P6.4: Floor32 of a NaN = %x, %d; Ceil32 = %x, %d", floor, why, ceil, whyCeil)
		}
	}
}

func TestFloorCeil(t *testing.T) {
	for _, v := range numbers(50000) {
		floor, why := Floor32(v)
		ceil, whyCeil := Ceil32(v)
		if !sameBits32(floor, floorByHalving(v)) || !sameBits32(ceil, ceilByHalving(v)) || why != api.OK || whyCeil != api.OK {
			t.Fatalf("P6.4: Floor32(%x) = %x, %d, not %x; Ceil32 = %x, %d, not %x", v, floor, why, floorByHalving(v), ceil, whyCeil, ceilByHalving(v))
		}
		if near := Narrow(v); near != floor && near != ceil {
			t.Fatalf("P6.9: Narrow(%x) = %x is neither %x nor %x", v, near, floor, ceil)
		}
	}
}

func TestGrid(t *testing.T) {
	l := numbers(20000)
	for i, x := range grid(20000) {
		on := float64(x)
		floor, _ := Floor32(on)
		ceil, _ := Ceil32(on)
		if floor != x || ceil != x || Narrow(on) != x {
			t.Fatalf("P6.9: %x is on the grid; Floor32 = %x, Ceil32 = %x, Narrow = %x", x, floor, ceil, Narrow(on))
		}
		for _, v := range []float64{on, math.Nextafter(on, endless), math.Nextafter(on, -endless), l[(i*7+1)%len(l)], 0, minus0, endless, -endless} {
			floor, _ := Floor32(v)
			ceil, _ := Ceil32(v)
			if (on <= v) != (x <= floor) || (on >= v) != (x >= ceil) {
				t.Fatalf("P6.9: %x and %x: Floor32 = %x, Ceil32 = %x", x, v, floor, ceil)
			}
		}
	}
}

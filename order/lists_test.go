package order

import (
	"math"
	"math/rand/v2"
	"slices"
	"testing"
	"unsafe"
)

func bitsOf(l []float64) []uint64 {
	words := make([]uint64, 0, len(l))
	for _, v := range l {
		words = append(words, math.Float64bits(v))
	}
	return words
}

func sameLists(a, b []float64) bool { return slices.Equal(bitsOf(a), bitsOf(b)) }

// isBelow says of two numbers what the chapter's first words say.
func isBelow(a, b float64) bool { return a < b || a == a && b != b }

// sortedByPlaces puts each number where those that lie below it, and those beside it that stand ahead, leave it a place.
func sortedByPlaces(l []float64) []float64 {
	sorted := make([]float64, len(l))
	for i, v := range l {
		place := 0
		for j, w := range l {
			if isBelow(w, v) || !isBelow(v, w) && j < i {
				place++
			}
		}
		sorted[place] = v
	}
	return sorted
}

// someList has many numbers that come again, noughts of both signs, NaNs of any bits.
func someList(r *rand.Rand, from []float64) []float64 {
	few := []float64{0, minus0, 1, 2, -1, endless, -endless, least, -least}
	few = append(few, nans()...)
	l := make([]float64, r.IntN(60), 64)
	for i := range l {
		if l[i] = few[r.IntN(len(few))]; r.IntN(4) == 0 {
			l[i] = from[r.IntN(len(from))]
		}
	}
	return l
}

func lists() [][]float64 {
	l := [][]float64{nil, {}, {0}, {minus0}, {math.NaN()}, {minus0, 0}, {0, minus0}, {1, 1, 1}, {2, 1}, nans(), {endless, -endless}, {math.NaN(), 0, math.NaN(), minus0}}
	from := numbers(2000)
	r := source()
	for range 1000 {
		l = append(l, someList(r, from))
	}
	return l
}

func TestSortedExample(t *testing.T) {
	n := math.NaN()
	l := []float64{2, n, minus0, 0, 1}
	if got := Sorted(l); !sameLists(got, []float64{minus0, 0, 1, 2, n}) {
		t.Errorf("P6.5: Sorted = %v", got)
	}
	if got := Sorted([]float64{0, minus0, -1}); !sameLists(got, []float64{-1, 0, minus0}) {
		t.Errorf("P6.5: noughts do not stay as they stand: %v", got)
	}
	if got := Distinct(l); !sameLists(got, []float64{0, 1, 2}) {
		t.Errorf("P6.5: Distinct = %v", got)
	}
	if Below([]float64{1, 2, 2, 3}, 2) != 1 || Below(l, n) != 4 || Below(nil, n) != 0 || Below(nil, 0) != 0 {
		t.Error("P6.5: the examples of Below")
	}
}

func TestSorted(t *testing.T) {
	for _, l := range lists() {
		got := Sorted(l)
		if !sameLists(got, sortedByPlaces(l)) {
			t.Fatalf("P6.5: Sorted(%v) = %v", l, got)
		}
		if !slices.IsSortedFunc(got, Compare) || !sameLists(Sorted(got), got) {
			t.Fatalf("P6.10: Sorted(%v) = %v", l, got)
		}
		was, is := bitsOf(l), bitsOf(got)
		slices.Sort(was)
		slices.Sort(is)
		if !slices.Equal(was, is) {
			t.Fatalf("P6.10: Sorted(%v) = %v", l, got)
		}
	}
}

// A list that is long enough for every way of sorting.
func TestSortedLong(t *testing.T) {
	r := source()
	l := make([]float64, 50000)
	for i := range l {
		l[i] = float64(r.IntN(2000) - 1000)
		if r.IntN(100) == 0 {
			l[i] = math.Float64frombits(0x7ff8000000000000 + uint64(i))
		}
		if l[i] == 0 && r.IntN(2) == 0 {
			l[i] = minus0
		}
	}
	got := Sorted(l)
	at := 0
	for key := -1000.0; key <= 1000; key++ {
		for _, v := range l {
			if v == key {
				if !sameBits(got[at], v) {
					t.Fatalf("P6.5: number %d is %x, not %x", at, got[at], v)
				}
				at++
			}
		}
	}
	for _, v := range l {
		if v != v {
			if !sameBits(got[at], v) {
				t.Fatalf("P6.5: number %d is another NaN", at)
			}
			at++
		}
	}
	if distinct := Distinct(l); at != len(l) || len(distinct) < 1900 || !slices.IsSorted(distinct) || len(slices.Compact(distinct)) != len(distinct) {
		t.Errorf("P6.5: %d numbers, %d of them distinct", at, len(distinct))
	}
}

func TestDistinct(t *testing.T) {
	for _, l := range lists() {
		var want []float64
		for _, v := range Sorted(l) {
			if v == v && (len(want) == 0 || want[len(want)-1] != v) {
				if v == 0 {
					v = 0
				}
				want = append(want, v)
			}
		}
		for range 4 {
			if got := Distinct(l); !sameLists(got, want) {
				t.Fatalf("P6.5, P6.10, P3: Distinct(%v) = %v, not %v", l, got, want)
			}
		}
	}
}

func TestBelow(t *testing.T) {
	from := numbers(500)
	for i, l := range lists() {
		tried := []float64{0, minus0, 1, endless, -endless, math.NaN(), math.Float64frombits(0xfff0000000000001), from[i%len(from)]}
		if len(l) > 0 {
			tried = append(tried, l[i%len(l)])
		}
		rising := Sorted(l)
		for _, v := range tried {
			want := 0
			for _, w := range l {
				if isBelow(w, v) {
					want++
				}
			}
			at := Below(l, v)
			if at != want || Below(rising, v) != want {
				t.Fatalf("P6.5: Below(%v, %g) = %d; of the rising list %d", l, v, at, Below(rising, v))
			}
			for j, w := range rising {
				if (Compare(w, v) < 0) != (j < at) {
					t.Fatalf("P6.10: Below(%v, %g) = %d", rising, v, at)
				}
			}
		}
	}
}

func apart(a, b []float64) bool {
	size := unsafe.Sizeof(0.0)
	fromA, fromB := uintptr(unsafe.Pointer(unsafe.SliceData(a))), uintptr(unsafe.Pointer(unsafe.SliceData(b)))
	return cap(a) == 0 || cap(b) == 0 || fromA+uintptr(cap(a))*size <= fromB || fromB+uintptr(cap(b))*size <= fromA
}

func TestNewMemory(t *testing.T) {
	for _, given := range lists()[:200] {
		l := append(slices.Clone(given), 77, 78, 79)[:len(given)]
		whole := slices.Clone(l[:cap(l)])
		sorted, distinct := Sorted(l), Distinct(l)
		again, distinctAgain := Sorted(l), Distinct(l)
		Below(l, 1)
		if !sameLists(l[:cap(l)], whole) {
			t.Fatalf("P6.6: %v is changed to %v", given, l)
		}
		all := [][]float64{l, sorted, distinct, again, distinctAgain}
		for i, a := range all {
			for _, b := range all[:i] {
				if !apart(a, b) {
					t.Fatalf("P6.6: of %v: lists share memory", given)
				}
			}
		}
	}
}

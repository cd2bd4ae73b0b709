package batch

import (
	"fmt"
	"math"
	"math/rand/v2"
	"slices"
	"strings"
	"testing"

	"thicket/api"
)

// written holds a writer to a text.
func written(t *testing.T, what, want string) func(string, api.Errno) {
	t.Helper()
	return func(s string, why api.Errno) {
		t.Helper()
		if s != want || why != api.OK {
			t.Errorf("%.200s: %.200q, %d, not %.200q", what, s, why, want)
		}
	}
}

// unwritten holds a writer to an error, beside which there is no text.
func unwritten(t *testing.T, what string, want api.Errno) func(string, api.Errno) {
	t.Helper()
	return func(s string, why api.Errno) {
		t.Helper()
		if s != "" || why != want {
			t.Errorf("%.200s: %.200q, %d, not %d", what, s, why, want)
		}
	}
}

func TestWriters(t *testing.T) {
	small := [][]float64{{nan, math.Float64frombits(0xfff0000000000001), endless, -endless}, {0, minus0, 1e21, 1e-7}, {123456789012345680000, 5e-324, -0.1, 1}}
	written(t, "17.4", "nan nan inf -inf\n0 -0 1e+21 1e-7\n123456789012345680000 5e-324 -0.1 1\n")(PrintDense(small))
	written(t, "17.4", "a,b,c,d\nnan,nan,inf,-inf\n0,-0,1e+21,1e-7\n123456789012345680000,5e-324,-0.1,1\n")(PrintCsv([]string{"a", "b", "c", "d"}, small))
	labels := []float64{minus0, nan, -endless}
	written(t, "17.4", "-0 1:nan 2:nan 3:inf 4:-inf\nnan 2:-0 3:1e+21 4:1e-7\n-inf 1:123456789012345680000 2:5e-324 3:-0.1 4:1\n")(PrintSparse(small, labels, false))
	written(t, "17.4", "-0 3:inf 4:-inf\nnan 1:0 2:-0 3:1e+21 4:1e-7\n-inf 1:123456789012345680000 2:5e-324 3:-0.1 4:1\n")(PrintSparse(small, labels, true))
	written(t, "17.4", "0\n")(PrintSparse([][]float64{{0, 0}}, []float64{0}, false))
	written(t, "17.4", "0\n")(PrintSparse([][]float64{{nan, math.Float64frombits(0x7ff0000000000001)}}, []float64{0}, true))
	written(t, "17.4", "3 10:1 11:2\n")(PrintSparse([][]float64{{0, 0, 0, 0, 0, 0, 0, 0, 0, 1, 2}}, []float64{3}, false))
	written(t, "17.4", "-,.,1\n1,2,3\n")(PrintCsv([]string{"-", ".", "1"}, [][]float64{{1, 2, 3}}))
}

func TestNoVectorsWritten(t *testing.T) {
	for _, l := range [][][]float64{nil, {}} {
		written(t, "17.4: no vectors", "")(PrintDense(l))
		written(t, "17.4: no vectors", "a,b\n")(PrintCsv([]string{"a", "b"}, l))
		for _, labels := range [][]float64{nil, {}} {
			written(t, "17.4: no vectors", "")(PrintSparse(l, labels, false))
			written(t, "17.4: no vectors", "")(PrintSparse(l, labels, true))
		}
		unwritten(t, "17.4: a label too many", api.ErrSize)(PrintSparse(l, []float64{1}, false))
	}
}

// Vectors that do not go together, or with the labels.
func TestSizes(t *testing.T) {
	for _, l := range [][][]float64{{nil}, {{}}, {{}, {}}, {{1}, nil}, {{1}, {}}, {nil, {1}}, {{1}, {1, 2}}, {{1, 2}, {1}}, {{1, 2}, {1, 2}, {1}}, {{1}, {1, 2}, {1}}, {{1, 2}, {1, 2, 3}, {1, 2}}, {make([]float64, api.MaxFeatures+1)}, {make([]float64, api.MaxFeatures), make([]float64, api.MaxFeatures+1)}, {make([]float64, api.MaxFeatures+1), {1}}} {
		what := fmt.Sprintf("17.4: %.60v", l)
		unwritten(t, what, api.ErrSize)(PrintDense(l))
		for _, lost := range []bool{false, true} {
			unwritten(t, what, api.ErrSize)(PrintSparse(l, make([]float64, len(l)), lost))
			unwritten(t, what, api.ErrSize)(PrintSparse(l, nil, lost))
		}
		unwritten(t, what, api.ErrSize)(PrintCsv([]string{"a", "b"}, l))
	}
	for _, l := range [][][]float64{{{1}}, {{1, 2, 3}}, {{1, 2}, {3}}, {{1, 2}, {3, 4, 5}}, {{1, 2}, {3, 4}, nil}, {{1}, {2}}, {{1, 2, 3}, {1, 2}}} {
		unwritten(t, fmt.Sprintf("17.4: two names, %v", l), api.ErrSize)(PrintCsv([]string{"a", "b"}, l))
	}
	l := [][]float64{{1, 2}, {3, 4}, {5, 6}}
	for n := range 6 {
		labels := make([]float64, n)
		if n == len(l) {
			written(t, "17.4: as many labels", "0 1:1 2:2\n0 1:3 2:4\n0 1:5 2:6\n")(PrintSparse(l, labels, false))
		} else {
			unwritten(t, fmt.Sprintf("17.4: %d labels", n), api.ErrSize)(PrintSparse(l, labels, true))
		}
	}
	most := make([]float64, api.MaxFeatures)
	most[api.MaxFeatures-1] = 7
	line := strings.Repeat("0 ", api.MaxFeatures-1) + "7\n"
	written(t, "17.4: as many numbers as there may be", line+line)(PrintDense([][]float64{most, most}))
	written(t, "17.4: as many numbers as there may be", "1 65536:7\n")(PrintSparse([][]float64{most}, []float64{1}, false))
}

func TestSame(t *testing.T) {
	other := math.Float64frombits(0xfff8000000000123)
	like := [][2][][]float64{
		{nil, nil}, {nil, {}}, {{}, {}}, {{nil}, {{}}}, {{{}}, {nil}}, {{{1}}, {{1}}}, {{{nan}}, {{nan}}}, {{{nan}}, {{other}}}, {{{math.Float64frombits(0x7ff0000000000001)}}, {{nan}}}, {{{0}, {1, 2}}, {{0}, {1, 2}}}, {{{minus0, endless}}, {{minus0, endless}}}, {{nil, {1}, {}}, {{}, {1}, nil}},
	}
	unlike := [][2][][]float64{
		{nil, {nil}}, {{}, {{}}}, {{nil}, {nil, nil}}, {{{1}}, {{2}}}, {{{1}}, {{1, 1}}}, {{{1}}, {{}}}, {{{1}}, nil}, {{{0}}, {{minus0}}}, {{{nan}}, {{0}}}, {{{nan}}, {{endless}}}, {{{endless}}, {{-endless}}}, {{{1, 2}}, {{1}, {2}}}, {{{1}, {2}}, {{2}, {1}}}, {{{1, nan}}, {{1, 1}}}, {{{5e-324}}, {{0}}},
		{{{1}}, {{math.Nextafter(1, 2)}}}, {{{1, 2, 3}}, {{1, 2, 4}}}, {{{1}, {2}, {3}}, {{1}, {2}, {4}}}, {{{1}, {2}}, {{1}, {2}, {}}}, {{{9, 2}}, {{1, 2}}},
	}
	for _, c := range like {
		if !Same(c[0], c[1]) || !Same(c[1], c[0]) {
			t.Errorf("17.5: %v and %v are not the same", c[0], c[1])
		}
	}
	for _, c := range unlike {
		if Same(c[0], c[1]) || Same(c[1], c[0]) {
			t.Errorf("17.5: %v and %v are the same", c[0], c[1])
		}
	}
}

// someNumber is one of the named ones, or any bits.
func someNumber(r *rand.Rand) float64 {
	switch r.IntN(4) {
	case 0:
		return math.Float64frombits(r.Uint64())
	case 1:
		return float64(r.IntN(2000)-1000) / 8
	}
	return []float64{0, 0, 0, minus0, 1, -1, 0.1, nan, math.Float64frombits(0xfff0000000000001), endless, -endless, math.MaxFloat64, -math.MaxFloat64, 5e-324, -5e-324, 1e21, 1e-7}[r.IntN(17)]
}

func someVectors(r *rand.Rand, many, d int) [][]float64 {
	var l [][]float64
	for range many {
		x := make([]float64, d)
		for i := range x {
			x[i] = someNumber(r)
		}
		l = append(l, x)
	}
	return l
}

// What is written is read as the same vectors and labels.
func TestBack(t *testing.T) {
	r := source()
	for range 3000 {
		d := 1 + r.IntN(6)
		l := someVectors(r, 1+r.IntN(5), d)
		s, why := PrintDense(l)
		if a := dense(s, d); why != api.OK || !equals(a.l, l) || !Same(a.l, l) || a.why != api.OK {
			t.Fatalf("17.6: %v as %q: %v", l, s, a)
		}
		names := manyNames(d)
		r.Shuffle(d, func(i, k int) { names[i], names[k] = names[k], names[i] })
		s, why = PrintCsv(names, l)
		if a := csv(s, names...); why != api.OK || !equals(a.l, l) || !Same(a.l, l) || a.why != api.OK {
			t.Fatalf("17.6: %v as %q: %v", l, s, a)
		}
		labels := slices.Concat(someVectors(r, len(l), 1)...)
		for _, lost := range []bool{false, true} {
			s, why = PrintSparse(l, labels, lost)
			if a := sparse(s, d, lost); why != api.OK || !equals(a.l, l) || !equal(a.labels, labels) || a.why != api.OK {
				t.Fatalf("17.6: %v, %v as %q: %v", l, labels, s, a)
			}
		}
	}
	wide := someVectors(r, 2, api.MaxFeatures)
	s, _ := PrintDense(wide)
	if a := dense(s, api.MaxFeatures); !equals(a.l, wide) {
		t.Error("17.6: as many numbers as there may be")
	}
	s, _ = PrintCsv(manyNames(api.MaxFeatures), wide)
	if a := csv(s, manyNames(api.MaxFeatures)...); !equals(a.l, wide) {
		t.Error("17.6: as many columns as there may be")
	}
	s, _ = PrintSparse(wide, []float64{1, 2}, true)
	if a := sparse(s, api.MaxFeatures, true); !equals(a.l, wide) {
		t.Error("17.6: as many indices as there may be")
	}
}

package bins

import (
	"slices"
	"testing"

	"thicket/api"
	"thicket/blocks"
	"thicket/code"
	"thicket/lanes"
	"thicket/quick"
	"thicket/trees"
)

// engines are all ways to score an ensemble that there are so far.
func engines(t *testing.T, e api.Ensemble, b int) map[string]func(x []float64) ([]int64, api.Errno) {
	t.Helper()
	f, why := blocks.Compile(e, b)
	q, no := quick.New(f)
	s, nor := lanes.New(f)
	p, not := code.Compile(e)
	if why != api.OK || no != api.OK || nor != api.OK || not != api.OK {
		t.Fatal("P5: an ensemble is not taken:", why, no, nor, not)
	}
	tidy, _ := code.Tidy(p)
	run := func(p api.Program) func(x []float64) ([]int64, api.Errno) {
		return func(x []float64) ([]int64, api.Errno) {
			l, _, why := code.Run(p, x)
			return l, why
		}
	}
	m := binned(t, e)
	back, _ := Back(m)
	return map[string]func(x []float64) ([]int64, api.Errno){
		"quick": q.Score,
		"lanes": func(x []float64) ([]int64, api.Errno) {
			l, why, _ := s.Score([][]float64{x})
			return slices.Concat(l...), why
		},
		"code":           run(p),
		"code, tidied":   run(tidy),
		"bins":           func(x []float64) ([]int64, api.Errno) { return Run(m, x) },
		"back from bins": func(x []float64) ([]int64, api.Errno) { return trees.Score(back, x) },
	}
}

func TestOneMeaning(t *testing.T) {
	r := source()
	for range 300 {
		e := someEnsemble(r, r.IntN(8), 3, 2)
		b, all := binsOf(t, e), engines(t, e, 1+r.IntN(4))
		for range 20 {
			x := someVector(r, 3)
			for i := range x {
				if near := numbersOf(b, i); r.IntN(2) == 0 {
					x[i] = near[r.IntN(len(near))]
				}
			}
			want, _ := trees.Score(e, x)
			for name, score := range all {
				if l, why := score(x); why != api.OK || !slices.Equal(l, want) {
					t.Fatalf("P5: %s: %v of %v and %v, %d, not %v", name, l, e, x, why, want)
				}
			}
		}
	}
}

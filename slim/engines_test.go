package slim

import (
	"slices"
	"testing"

	"thicket/api"
	"thicket/bins"
	"thicket/blocks"
	"thicket/code"
	"thicket/image"
	"thicket/lanes"
	"thicket/quick"
	"thicket/trees"
)

// score is a way to score a vector.
type score func(x []float64) ([]int64, api.Errno)

// engines are all ways to score an ensemble, in blocks of b trees.
func engines(t *testing.T, e api.Ensemble, b int) map[string]score {
	t.Helper()
	f, why := blocks.Compile(e, b)
	bytes, no := image.Encode(f)
	read, nor, _ := image.Decode(bytes)
	p, not := code.Compile(e)
	tidy, none := code.Tidy(p)
	m, never := bins.Compile(e)
	s, neither := Slim(e)
	for _, why := range []api.Errno{why, no, nor, not, none, never, neither} {
		if why != api.OK {
			t.Fatal("P5: an ensemble is not taken:", why)
		}
	}
	run := func(p api.Program) score {
		return func(x []float64) ([]int64, api.Errno) {
			l, _, why := code.Run(p, x)
			return l, why
		}
	}
	eight := func(f api.Form) score {
		k, _ := lanes.New(f)
		return func(x []float64) ([]int64, api.Errno) {
			l, why, _ := k.Score([][]float64{x})
			return slices.Concat(l...), why
		}
	}
	one := func(f api.Form) score {
		q, _ := quick.New(f)
		return q.Score
	}
	return map[string]score{
		"quick":                  one(f),
		"lanes":                  eight(f),
		"quick of an image":      one(read),
		"lanes of an image":      eight(read),
		"code":                   run(p),
		"code, tidied":           run(tidy),
		"bins":                   func(x []float64) ([]int64, api.Errno) { return bins.Run(m, x) },
		"descent of fewer nodes": func(x []float64) ([]int64, api.Errno) { return trees.Score(s, x) },
	}
}

func TestOneMeaning(t *testing.T) {
	r := source()
	for range 200 {
		e := someEnsemble(r, r.IntN(8), 3)
		s, _ := Slim(e)
		b := 1 + r.IntN(4)
		all := []map[string]score{engines(t, e, b), engines(t, s, b)}
		for range 20 {
			x := someVector(r, e)
			want, _ := trees.Score(e, x)
			for _, ways := range all {
				for name, score := range ways {
					if l, why := score(x); why != api.OK || !slices.Equal(l, want) {
						t.Fatalf("P5: %s: %v of %v and %v, %d, not %v", name, l, e, x, why, want)
					}
				}
			}
		}
	}
}

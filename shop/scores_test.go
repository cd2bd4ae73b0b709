package shop

import (
	"math"
	"slices"
	"strconv"
	"sync"
	"testing"
	"testing/synctest"

	"thicket/api"
)

var nan, endless = math.NaN(), math.Inf(1)

func noScores(t *testing.T, s *Shop, name string, keys []string, l [][]float64, workers int, want api.Errno) {
	t.Helper()
	if sums, versions, why := s.Scores(name, keys, l, workers); len(sums) != 0 || len(versions) != 0 || why != want {
		t.Errorf("29.5: Scores(%q, %q, %v, %d): %v, %v, %d, not %d", name, keys, l, workers, sums, versions, why, want)
	}
}

// someWorkers are numbers of workers, at all edges.
func someWorkers(vectors int) []int {
	return []int{1, math.MinInt, -1, 0, 2, 3, 7, vectors - 1, vectors, vectors + 1, mostWorkers, mostWorkers + 1, 100000, math.MaxInt}
}

func TestScore(t *testing.T) {
	s := shopOf(t, small)
	isScore(t, s, "m", "k", []float64{0, 0}, 1, 1500000)
	isScore(t, s, "m", "k", []float64{1, 0}, 1, -1750000)
	isScore(t, s, "m", "k", []float64{nan, 7}, 1, 1500000)
	isScore(t, s, "m", "k", []float64{endless, math.Copysign(0, -1)}, 1, -1750000)
	isScore(t, s, "m", "k", []float64{-endless, nan}, 1, 1500000)
	isScore(t, s, "m", "k", []float64{0.5, 0}, 1, 1500000)
	isScore(t, s, "m", "k", []float64{math.Nextafter(0.5, 1), 0}, 1, -1750000)
	for _, x := range [][]float64{nil, {}, {0}, {0, 0, 0}, make([]float64, 1000)} {
		noScore(t, s, "m", "k", x, api.ErrVector)
		noScore(t, s, "n", "k", x, api.ErrNoModel)
	}
	isPut(t, s, "m", wide, 2)
	isScore(t, s, "m", "k", []float64{1, 2, 3}, 2, 3000000, -4000000)
	noScore(t, s, "m", "k", []float64{0, 0}, api.ErrVector)
}

func TestScores(t *testing.T) {
	s := shopOf(t, small, wide)
	for _, workers := range someWorkers(0) {
		for _, name := range []string{"m", "n", ""} { // nobody is asked
			if sums, versions, why := s.Scores(name, nil, [][]float64{}, workers); len(sums) != 0 || len(versions) != 0 || why != api.OK {
				t.Errorf("29.5: Scores of no keys: %v, %v, %d", sums, versions, why)
			}
		}
		noScores(t, s, "m", []string{"a"}, nil, workers, api.ErrSize)
		noScores(t, s, "m", nil, [][]float64{{0, 0}}, workers, api.ErrSize)
		noScores(t, s, "n", []string{"a", "b"}, [][]float64{{0, 0}}, workers, api.ErrSize) // ahead of what Score would answer
		noScores(t, s, "n", []string{"a"}, [][]float64{{0, 0}}, workers, api.ErrNoModel)
		noScores(t, s, "m", []string{"a"}, [][]float64{{0, 0}}, workers, api.ErrVector)
	}
	is(t, "Try", s.Try("m", 1, 500), api.OK)
	k, a := []float64{1, 0}, []float64{1, 0, 0} // what the versions for k and a take
	for _, workers := range someWorkers(3) {
		sums, versions, why := s.Scores("m", []string{"a", "k", "a"}, [][]float64{a, k, a}, workers)
		if why != api.OK || !slices.Equal(versions, []int{2, 1, 2}) || len(sums) != 3 ||
			!slices.Equal(sums[0], []int64{3000000, -4000000}) || !slices.Equal(sums[1], []int64{-1750000}) || !slices.Equal(sums[2], sums[0]) {
			t.Errorf("29.5: Scores by %d workers: %v, %v, %d", workers, sums, versions, why)
		}
		for _, l := range [][][]float64{{k, k, a}, {a, a, a}, {a, k, k}, {nil, k, a}, {a, nil, a}, {a, k, nil}, {k, a, k}, {nil, nil, nil}, {{1}, {1, 2, 3, 4}, nil}} {
			noScores(t, s, "m", []string{"a", "k", "a"}, l, workers, api.ErrVector)
		}
	}
	is(t, "Withdraw", s.Withdraw("m", 2), api.OK)
	is(t, "Stop", s.Stop("m"), api.OK)
	is(t, "Withdraw", s.Withdraw("m", 1), api.OK)
	for _, workers := range someWorkers(2) { // Route's error comes ahead of the vector's
		noScores(t, s, "m", []string{"a", "k"}, [][]float64{nil, k}, workers, api.ErrNoVersion)
	}
}

// Of errors at several places the first one is told, whoever comes to it first.
func TestFirstError(t *testing.T) {
	b := &batch{whys: make([]api.Errno, 100)}
	for i, why := range []api.Errno{api.ErrVector, api.ErrNil, api.ErrSize} {
		b.whys[90-30*i] = why
		if got := b.firstError(); got != why {
			t.Error("29.5: the first error is", got, "not", why)
		}
	}
}

// many are keys and vectors for small, with NaNs and infinities among the numbers.
func many(n int) ([]string, [][]float64) {
	var keys []string
	var l [][]float64
	for i := range n {
		keys = append(keys, "key"+strconv.Itoa(i))
		l = append(l, []float64{[]float64{0, 0.5, 1, nan, endless, -endless, -3}[i%7], float64(i)})
	}
	return keys, l
}

func TestWorkers(t *testing.T) {
	s := shopOf(t, small, with("7"), with("8"))
	is(t, "Try", s.Try("m", 1, 300), api.OK)
	is(t, "Pin", s.Pin("m", 2), api.OK)
	for _, n := range []int{1, 2, 7, 100, 1000} {
		keys, l := many(n)
		for _, workers := range someWorkers(n) {
			sums, versions, why := s.Scores("m", keys, l, workers)
			if why != api.OK || len(sums) != n || len(versions) != n {
				t.Fatal("29.5:", n, workers, why)
			}
			for i := range keys {
				one, version, _ := s.Score("m", keys[i], l[i])
				if !slices.Equal(sums[i], one) || versions[i] != version {
					t.Fatalf("29.11: vector %d of %d by %d workers: %v, %d, not %v, %d", i, n, workers, sums[i], versions[i], one, version)
				}
			}
			spoilt := slices.Clone(l)
			spoilt[n-1] = nil
			noScores(t, s, "m", keys, spoilt, workers, api.ErrVector)
			spoilt[0] = []float64{1, 2, 3}
			noScores(t, s, "m", keys, spoilt, workers, api.ErrVector)
		}
	}
}

// No goroutine is left behind, of calls that answer and of such as are refused: a bubble is back when each one within has ended, and panics if one never will.
func TestNoneIsLeft(t *testing.T) {
	keys, l := many(200)
	wrong := slices.Clone(l)
	wrong[5], wrong[150] = nil, nil
	for _, workers := range someWorkers(200) {
		synctest.Test(t, func(t *testing.T) {
			s := shopOf(t, small, with("7"))
			is(t, "Try", s.Try("m", 1, 300), api.OK)
			s.Scores("m", keys, l, workers)
			s.Scores("m", keys, wrong, workers)
			s.Scores("m", keys, l[1:], workers)
			s.Scores("n", keys, l, workers)
			s.Score("m", "k", l[0])
			Replay(s.Journal())
		})
	}
}

// The mutex holds where many ask at one time: each call is done as if alone.
func TestAtOneTime(t *testing.T) {
	s := shopOf(t, small)
	keys, l := many(50)
	want, _, _ := s.Scores("m", keys, l, 1)
	met := make([]int, 256)
	var all sync.WaitGroup
	for i := range met {
		all.Go(func() {
			met[i], _, _ = s.Put("n", wide)
			sums, _, why := s.Scores("m", keys, l, 1+i%5)
			one, _, no := s.Score("m", keys[i%50], l[i%50])
			if why != api.OK || no != api.OK || !slices.EqualFunc(sums, want, slices.Equal) || !slices.Equal(one, want[i%50]) {
				t.Error("29.5: many at one time:", why, no)
			}
			if s.Pin("n", met[i]) != api.OK || s.Names()[0] != "m" {
				t.Error("many at one time")
			}
		})
	}
	all.Wait()
	slices.Sort(met)
	for i, n := range met {
		if n != i+1 {
			t.Fatal("29.1: versions that were put at one time:", met)
		}
	}
	same(t, "what many did at one time", replayed(t, s.Journal()), s)
}

package shop

import (
	"sync"
	"sync/atomic"

	"thicket/api"
	"thicket/quick"
)

// mostWorkers is how many goroutines score at most, however many are asked for.
const mostWorkers = 64

// batch is vectors that are scored, each by its version. Workers write at the places that they take, and nowhere else.
type batch struct {
	model    model
	versions []int
	vectors  [][]float64
	sums     [][]int64
	whys     []api.Errno
	refused  atomic.Int64 // how many have an error
}

// scores are those of vectors, each by its version; or the first one's error that has one.
func (m model) scores(versions []int, vectors [][]float64, workers int) ([][]int64, api.Errno) {
	for _, n := range versions {
		m.compiled(n) // ahead of the workers, who only read
	}
	b := &batch{model: m, versions: versions, vectors: vectors, sums: make([][]int64, len(vectors)), whys: make([]api.Errno, len(vectors))}
	b.work(min(max(workers, 1), len(vectors), mostWorkers))
	if b.refused.Load() > 0 {
		return nil, b.firstError()
	}
	return b.sums, api.OK
}

// work has all places done by so many goroutines; when it is back, these have ended.
func (b *batch) work(workers int) {
	places := make(chan int)
	var all sync.WaitGroup
	for worker := range workers {
		all.Go(func() { b.take(places, worker == 0) })
	}
	for place := range b.vectors {
		places <- place
	}
	close(places)
	all.Wait()
}

// take scores the vectors at the places that come. A scorer keeps scratch, so that but one worker may have those that are kept.
func (b *batch) take(places <-chan int, kept bool) {
	scorers := map[int]*quick.Scorer{} // by version
	for place := range places {
		n := b.versions[place]
		if scorers[n] == nil {
			scorers[n] = b.scorer(n, kept)
		}
		b.sums[place], b.whys[place] = scorers[n].Score(b.vectors[place])
		if b.whys[place] != api.OK {
			b.refused.Add(1)
		}
	}
}

// scorer is the one of a version that is kept, or a new one.
func (b *batch) scorer(n int, kept bool) *quick.Scorer {
	e := b.model.compiled(n)
	if kept {
		return e.scorer
	}
	s, _ := quick.New(e.form) // the form was taken already
	return s
}

func (b *batch) firstError() api.Errno {
	for _, why := range b.whys {
		if why != api.OK {
			return why
		}
	}
	return api.OK
}

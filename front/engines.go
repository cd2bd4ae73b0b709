package front

import (
	"sync"

	"thicket/api"
	"thicket/bins"
	"thicket/code"
	"thicket/lanes"
	"thicket/quick"
	"thicket/trees"
)

// scorer says what the model says of each of some vectors. It is asked by one at a time.
type scorer func(l [][]float64) ([][]int64, api.Errno)

// groupWidth is how many vectors a worker takes at one time: as many as go side by side in lanes.
const groupWidth = api.LaneWidth

// scores are the model's, of all vectors, by the engine that is asked for.
func (t *task) scores() [][]int64 {
	groups := (len(t.vectors) + groupWidth - 1) / groupWidth
	sums, whys := make([][]int64, len(t.vectors)), make([]api.Errno, groups)
	maker := t.maker()
	work(min(t.count("workers"), groups), groups, func(taken <-chan int) {
		score := maker()
		for group := range taken {
			from := group * groupWidth
			to := min(from+groupWidth, len(t.vectors))
			l, why := score(t.vectors[from:to])
			copy(sums[from:to], l)
			whys[group] = why
		}
	})
	for _, why := range whys {
		must(why)
	}
	return sums
}

// work has so many groups done by so many goroutines that take them from a channel; when it is back, these have ended.
func work(workers, groups int, do func(taken <-chan int)) {
	taken := make(chan int)
	var all sync.WaitGroup
	for range workers {
		all.Go(func() { do(taken) })
	}
	for group := range groups {
		taken <- group
	}
	close(taken)
	all.Wait()
}

// maker compiles the model once for all workers, and makes each of them a scorer.
func (t *task) maker() func() scorer {
	e := t.models[0]
	switch t.word("engine") {
	case "descent":
		return oneByOne(func(x []float64) ([]int64, api.Errno) { return trees.Score(e, x) })
	case "code":
		p, why := code.Compile(e)
		must(why)
		return oneByOne(func(x []float64) ([]int64, api.Errno) {
			sums, _, why := code.Run(p, x)
			return sums, why
		})
	case "bins":
		m, why := bins.Compile(e)
		must(why)
		return oneByOne(func(x []float64) ([]int64, api.Errno) { return bins.Run(m, x) })
	case "lanes":
		return scorersOf(t.form(), lanes.New, (*lanes.Scorer).Score)
	}
	return scorersOf(t.form(), quick.New, (*quick.Scorer).All)
}

// oneByOne makes scorers of what scores one vector and keeps nothing, so that all workers may share it.
func oneByOne(score func(x []float64) ([]int64, api.Errno)) func() scorer {
	all := func(l [][]float64) ([][]int64, api.Errno) {
		var sums [][]int64
		for _, x := range l {
			one, why := score(x)
			if why != api.OK {
				return nil, why
			}
			sums = append(sums, one)
		}
		return sums, api.OK
	}
	return func() scorer { return all }
}

// scorersOf makes scorers of what keeps scratch: a new one each time. One that could not be made is nil, and says so when it is asked.
func scorersOf[T any](f api.Form, anew func(api.Form) (T, api.Errno), all func(T, [][]float64) ([][]int64, api.Errno, int)) func() scorer {
	return func() scorer {
		s, _ := anew(f)
		return func(l [][]float64) ([][]int64, api.Errno) {
			sums, why, _ := all(s, l)
			return sums, why
		}
	}
}

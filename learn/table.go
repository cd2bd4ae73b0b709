package learn

import (
	"cmp"
	"math"
	"slices"
	"sync"

	"thicket/order"
)

// workers is how many goroutines go through the features at most.
const workers = 8

// column is the rows by one feature: those with a number, by rising number, with the numbers' keys; and those with a NaN.
type column struct {
	rows []int32
	keys []uint64
	lost []int32
}

func columnOf(l [][]float64, feature int) column {
	type entry struct {
		key uint64
		row int32
	}
	all := make([]entry, len(l))
	for row, x := range l {
		all[row] = entry{order.Key(x[feature]), int32(row)}
	}
	slices.SortFunc(all, func(a, b entry) int { return cmp.Compare(a.key, b.key) })
	c := column{rows: make([]int32, 0, len(l)), keys: make([]uint64, 0, len(l))}
	nan := order.Key(math.NaN())
	for _, e := range all {
		if e.key == nan {
			c.lost = append(c.lost, e.row)
			continue
		}
		c.rows, c.keys = append(c.rows, e.row), append(c.keys, e.key)
	}
	return c
}

// table is vectors, sorted once by each feature, as the same ones are split again and again.
type table struct {
	vectors [][]float64
	columns []column
}

func newTable(l [][]float64) *table {
	t := &table{vectors: l, columns: make([]column, len(l[0]))}
	t.work(func(features <-chan int) {
		for feature := range features {
			t.columns[feature] = columnOf(l, feature)
		}
	})
	return t
}

// work has all features done by goroutines that take them from a channel; when it is back, these have ended.
func (t *table) work(do func(features <-chan int)) {
	features := make(chan int, len(t.columns))
	for feature := range t.columns {
		features <- feature
	}
	close(features)
	var all sync.WaitGroup
	for range min(workers, len(t.columns)) {
		all.Go(func() { do(features) })
	}
	all.Wait()
}

// bests are the best splits of places, one by one. Each worker's candidates are the best ones of the features that it took; which these were does not matter, as of any two splits the better one is certain.
func (t *table) bests(p places) []split {
	best := p.unsplit()
	if len(best) == 0 {
		return nil
	}
	candidates := make(chan []split, workers)
	t.work(func(features <-chan int) {
		s := newSearch(p)
		for feature := range features {
			s.look(feature, &t.columns[feature])
		}
		candidates <- s.best
	})
	close(candidates)
	for l := range candidates {
		for place, s := range l {
			if s.ahead(best[place]) {
				best[place] = s
			}
		}
	}
	return best
}

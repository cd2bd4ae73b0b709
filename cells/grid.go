package cells

import (
	"iter"

	"thicket/api"
)

// grid is the cells of some points, numbered in their order.
type grid struct {
	points [][]float64
	wheels []wheel
	many   int
}

// wheel is a feature that has more than one point; cells that differ there by one place, and there alone, are so many numbers apart.
type wheel struct{ feature, apart int }

// newGrid is false, if there are more cells than may be gone through.
func newGrid(points [][]float64) (*grid, bool) {
	g := &grid{points: points, many: 1}
	for i := range points {
		feature := len(points) - 1 - i // the last one is the quickest
		if len(points[feature]) > 1 {
			g.wheels = append(g.wheels, wheel{feature, g.many})
		}
		g.many *= len(points[feature])
		if g.many > api.MaxCells {
			return nil, false
		}
	}
	return g, true
}

// vector is the cell of a number.
func (g *grid) vector(number int) []float64 {
	x := make([]float64, len(g.points))
	for feature, l := range g.points {
		x[feature] = l[0]
	}
	for _, w := range g.wheels {
		l := g.points[w.feature]
		x[w.feature] = l[number/w.apart%len(l)]
	}
	return x
}

// counter is a number of a cell, made of what each wheel adds to it.
type counter struct {
	number int
	digits [][]int // of each wheel what its places add
	at     []int   // of each wheel where it stands
}

// newCounter stands at the first of the cells that lie in rests, of which each has something.
func (g *grid) newCounter(rests []rest) *counter {
	c := &counter{digits: make([][]int, len(g.wheels)), at: make([]int, len(g.wheels))}
	for i, w := range g.wheels {
		l := rests[w.feature].places(g.points[w.feature])
		for j := range l {
			l[j] *= w.apart
		}
		c.digits[i] = l
		c.number += l[0]
	}
	return c
}

// turn goes on to the next cell, the quickest wheel first; false, if all wheels are round.
func (c *counter) turn() bool {
	for i, l := range c.digits {
		c.number -= l[c.at[i]]
		c.at[i] = (c.at[i] + 1) % len(l)
		c.number += l[c.at[i]]
		if c.at[i] > 0 {
			return true
		}
	}
	return false
}

// cells yields the numbers of the cells that lie in rests, rising.
func (g *grid) cells(rests []rest) iter.Seq[int] {
	return func(yield func(int) bool) {
		c := g.newCounter(rests)
		for yield(c.number) && c.turn() {
		}
	}
}

// scores are an ensemble's scores of an output, cell by cell, of vectors that lie in rests. Each leaf is laid on all cells that come to it, so that no cell has to go down the trees.
func (g *grid) scores(e api.Ensemble, output int, rests []rest) []int64 {
	l := make([]int64, g.many)
	for number := range l {
		l[number] = e.Base[output]
	}
	for _, t := range e.Trees {
		if t.Output != output {
			continue
		}
		for i := range reached(t.Nodes, rests) {
			for number := range g.cells(rests) {
				l[number] += t.Nodes[i].Value
			}
		}
	}
	return l
}

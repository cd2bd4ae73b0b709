package code

import (
	"iter"

	"thicket/api"
	"thicket/trees"
)

// machine is a vector, and what a program has summed up of it so far.
type machine struct {
	x    []float64
	sums []int64
}

// deed does an operation, and answers the number of the one to go on with; next is that of the one behind it.
type deed func(m *machine, o *api.Op, next int) int

// nowhere is what an OpEnd goes on with.
const nowhere = -1

// deeds are what operations do, by their kinds.
func deeds() [api.OpCount]deed {
	return [api.OpCount]deed{
		api.OpTest: func(m *machine, o *api.Op, next int) int {
			return m.ask(api.Node{Kind: api.NodeNumber, Threshold: o.Threshold, Missing: o.Missing}, o, next)
		},
		api.OpIn: func(m *machine, o *api.Op, next int) int {
			return m.ask(api.Node{Kind: api.NodeCats, Cats: o.Cats, Missing: o.Missing}, o, next)
		},
		api.OpAdd: func(m *machine, o *api.Op, next int) int {
			m.sums[o.Output] += o.Value
			return next
		},
		api.OpJump: func(_ *machine, o *api.Op, _ int) int { return o.To },
		api.OpEnd:  func(*machine, *api.Op, int) int { return nowhere },
	}
}

// ask is where a test goes on that asks what a node asks.
func (m *machine) ask(n api.Node, o *api.Op, next int) int {
	if trees.Goes(n, m.x[o.Feature]) == api.SideLeft {
		return next
	}
	return o.To
}

// steps does a right program's operations and yields their numbers. It ends, as each goes on with one that stands behind it.
func (m *machine) steps(l []api.Op) iter.Seq[int] {
	return func(yield func(int) bool) {
		table := deeds()
		for at := 0; at != nowhere && yield(at); {
			o := &l[at]
			at = table[o.Kind](m, o, at+1)
		}
	}
}

package trees

import (
	"iter"
	"math"

	"thicket/api"
)

// asker is what nodes of a kind do with a number; each kind has a type of its own. The node is handed in, not kept in the type, so that asking takes no memory.
type asker interface {
	goes(n api.Node, x float64) api.Side
}

// leaf asks nothing; so does a node of no kind.
type leaf struct{}

// number asks whether a number is at most the threshold.
type number struct{}

// among asks whether a number is one of the categories.
type among struct{}

func (leaf) goes(api.Node, float64) api.Side { return api.SideNone }

func (number) goes(n api.Node, x float64) api.Side { return side(x, n.Missing, x <= n.Threshold) }

func (among) goes(n api.Node, x float64) api.Side {
	for _, c := range n.Cats {
		if float64(c) == x {
			return api.SideLeft
		}
	}
	return side(x, n.Missing, false)
}

// side is where a number goes: a NaN is missing, whatever the question.
func side(x float64, missing api.Side, left bool) api.Side {
	switch {
	case math.IsNaN(x):
		return missing
	case left:
		return api.SideLeft
	}
	return api.SideRight
}

func askerOf(kind api.NodeKind) asker {
	switch kind {
	case api.NodeNumber:
		return number{}
	case api.NodeCats:
		return among{}
	}
	return leaf{}
}

// Goes is the side that a number goes to at a node.
func Goes(n api.Node, x float64) api.Side { return askerOf(n.Kind).goes(n, x) }

// down yields the numbers of the nodes that a vector comes by, from node 0 to its leaf: of a right tree, and a vector that has a number for each feature that is asked for.
func down(l []api.Node, x []float64) iter.Seq[int] {
	return func(yield func(int) bool) {
		for i := 0; yield(i) && isInner(l[i].Kind); {
			i = next(l[i], x)
		}
	}
}

// next is the node below an inner one that a vector comes to.
func next(n api.Node, x []float64) int {
	if Goes(n, x[n.Feature]) == api.SideLeft {
		return n.Left
	}
	return n.Right
}

// lacks tells whether a vector is too short for a question, wherever it stands.
func lacks(l []api.Node, x []float64) bool {
	for i := range l {
		if isInner(l[i].Kind) && l[i].Feature >= len(x) {
			return true
		}
	}
	return false
}

// Way are the numbers of the nodes that a vector comes by, from the root to its leaf.
func Way(t api.Tree, x []float64) ([]int, api.Errno) {
	if why, _ := Shape(t); why != api.OK {
		return nil, why
	}
	if lacks(t.Nodes, x) {
		return nil, api.ErrVector
	}
	var l []int
	for i := range down(t.Nodes, x) {
		l = append(l, i)
	}
	return l, api.OK
}

// Leaf is the number of a vector's leaf from left to right, and its value.
func Leaf(t api.Tree, x []float64) (int, int64, api.Errno) {
	way, why := Way(t, x)
	if why != api.OK {
		return 0, 0, why
	}
	end := way[len(way)-1]
	return place(t.Nodes, end), t.Nodes[end].Value, api.OK
}

// place is how many leaves stand left of one.
func place(l []api.Node, end int) int {
	left := 0
	for i := range reached(l) {
		if i == end {
			break
		}
		if !isInner(l[i].Kind) {
			left++
		}
	}
	return left
}

// Score is what an ensemble says of a vector.
func Score(e api.Ensemble, x []float64) ([]int64, api.Errno) {
	if e.Outputs < 1 || len(e.Base) != e.Outputs {
		return nil, api.ErrSize
	}
	if len(x) != len(e.Features) {
		return nil, api.ErrVector
	}
	sums := copyList(e.Base)
	for _, t := range e.Trees {
		v, why := worth(t, e.Outputs, x)
		if why != api.OK {
			return nil, why
		}
		sums[t.Output] += v
	}
	return sums, api.OK
}

// worth is what a tree of an ensemble with so many outputs adds to its output. Where the leaf stands among the others is not asked here, so that a score does not pay for it.
func worth(t api.Tree, outputs int, x []float64) (int64, api.Errno) {
	if why, _ := Shape(t); why != api.OK {
		return 0, why
	}
	if t.Output < 0 || t.Output >= outputs {
		return 0, api.ErrSize
	}
	if lacks(t.Nodes, x) {
		return 0, api.ErrVector
	}
	var v int64
	for i := range down(t.Nodes, x) {
		v = t.Nodes[i].Value
	}
	return v, api.OK
}

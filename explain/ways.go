package explain

import (
	"iter"

	"thicket/api"
	"thicket/trees"
)

// treesOf yields the nodes of an output's trees.
func treesOf(e api.Ensemble, output int) iter.Seq[[]api.Node] {
	return func(yield func([]api.Node) bool) {
		for i := range e.Trees {
			if t := &e.Trees[i]; t.Output == output && !yield(t.Nodes) {
				return
			}
		}
	}
}

// stepsOf yields the inner nodes that a vector comes by, each with the node behind it. That the tree is right is known, so it is not looked over again for each vector, as trees.Way does.
func stepsOf(nodes []api.Node, x []float64) iter.Seq2[int, int] {
	return func(yield func(int, int) bool) {
		for i := 0; nodes[i].Kind != api.NodeLeaf; {
			next := behind(&nodes[i], x)
			if !yield(i, next) {
				return
			}
			i = next
		}
	}
}

// behind is the node below an inner one that a vector comes to.
func behind(n *api.Node, x []float64) int {
	if trees.Goes(*n, x[n.Feature]) == api.SideLeft {
		return n.Left
	}
	return n.Right
}

// score is what an output's trees say of a vector. In a right ensemble no such sum wraps.
func score(e api.Ensemble, output int, x []float64) int64 {
	sum := e.Base[output]
	for nodes := range treesOf(e, output) {
		end := 0
		for _, next := range stepsOf(nodes, x) {
			end = next
		}
		sum += nodes[end].Value
	}
	return sum
}

// mixed is a vector with x's numbers of the features that are in a set, and b's of the others.
func mixed(x, b []float64, isIn []bool) []float64 {
	m := make([]float64, len(x))
	for feature := range m {
		m[feature] = b[feature]
		if isIn[feature] {
			m[feature] = x[feature]
		}
	}
	return m
}

// playersOf are the features of a right ensemble's inner nodes, rising.
func playersOf(e api.Ensemble) []int {
	isAsked := make([]bool, len(e.Features))
	for _, t := range e.Trees {
		for i := range t.Nodes {
			if n := &t.Nodes[i]; n.Kind != api.NodeLeaf {
				isAsked[n.Feature] = true
			}
		}
	}
	var l []int
	for feature, asked := range isAsked {
		if asked {
			l = append(l, feature)
		}
	}
	return l
}

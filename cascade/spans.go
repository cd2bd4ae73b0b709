package cascade

import (
	"iter"

	"thicket/api"
	"thicket/trees"
)

// spanOf is from the least to the greatest value of a right tree's leaves.
func spanOf(nodes []api.Node) api.Bound {
	var s api.Bound
	met := false
	for i := range nodes {
		n := &nodes[i]
		switch {
		case n.Kind != api.NodeLeaf:
		case !met:
			s, met = api.Bound{Low: n.Value, High: n.Value}, true
		default:
			s.Low, s.High = min(s.Low, n.Value), max(s.High, n.Value)
		}
	}
	return s
}

// ahead is where each output's score lies ahead of all trees. In a right ensemble no such sum wraps.
func ahead(e api.Ensemble) []api.Bound {
	spans := make([]api.Bound, e.Outputs)
	for output, v := range e.Base {
		spans[output] = api.Bound{Low: v, High: v}
	}
	for _, t := range e.Trees {
		s, span := spanOf(t.Nodes), &spans[t.Output]
		span.Low, span.High = span.Low+s.Low, span.High+s.High
	}
	return spans
}

// narrow puts what a tree says in the place of that tree's span.
func narrow(span *api.Bound, tree api.Bound, v int64) {
	span.Low, span.High = span.Low-tree.Low+v, span.High-tree.High+v
}

// behind yields numbers of trees, from 0 on, and where each output's score of a vector lies behind so many. It is one list that changes. A tree is asked only if there is more to yield.
func behind(e api.Ensemble, x []float64) iter.Seq2[int, []api.Bound] {
	return func(yield func(int, []api.Bound) bool) {
		spans := ahead(e)
		for asked := 0; yield(asked, spans) && asked < len(e.Trees); asked++ {
			t := &e.Trees[asked]
			narrow(&spans[t.Output], spanOf(t.Nodes), valueOf(t.Nodes, x))
		}
	}
}

// valueOf is the value of the leaf that a vector comes to. That the tree is right is known, so it is not looked over again for each vector, as trees.Leaf does.
func valueOf(nodes []api.Node, x []float64) int64 {
	i := 0
	for nodes[i].Kind != api.NodeLeaf {
		n := &nodes[i]
		if trees.Goes(*n, x[n.Feature]) == api.SideLeft {
			i = n.Left
		} else {
			i = n.Right
		}
	}
	return nodes[i].Value
}

// greatest is the output that is certain to have the greatest score, the first of such as are alike; false, if none is certain.
func greatest(spans []api.Bound) (int, bool) {
candidates:
	for output, s := range spans {
		for other, o := range spans {
			if other < output && s.Low <= o.High || other > output && s.Low < o.High {
				continue candidates
			}
		}
		return output, true
	}
	return 0, false
}

package cascade

import (
	"cmp"
	"slices"

	"thicket/api"
)

// candidate is a vector that may be among the first, and where its score lies.
type candidate struct {
	vector int
	span   api.Bound
}

func allOpen(e api.Ensemble, many, output int) []candidate {
	span := ahead(e)[output]
	open := make([]candidate, many)
	for i := range open {
		open[i] = candidate{vector: i, span: span}
	}
	return open
}

// ask asks a tree of each open vector. What a tree of another output says is not looked at.
func ask(open []candidate, l [][]float64, t *api.Tree, output int) []candidate {
	if t.Output != output {
		return open
	}
	s := spanOf(t.Nodes)
	for i := range open {
		c := &open[i]
		narrow(&c.span, s, valueOf(t.Nodes, l[c.vector]))
	}
	return open
}

// stillOpen are those ahead of which fewer than k others are certain to stand. Only open ones matter for that: ahead of a closed one there are k others, and these stand ahead of all that it stands ahead of.
func stillOpen(open []candidate, k int) []candidate {
	if len(open) <= k {
		return open
	}
	last := sorted(open)[k-1]
	return slices.DeleteFunc(open, func(c candidate) bool { return isAhead(last, c) })
}

// sorted puts vectors in the order in which they stand, if each has its least score. Behind all trees it is the order that is asked for.
func sorted(open []candidate) []candidate {
	slices.SortFunc(open, func(a, b candidate) int {
		return cmp.Or(cmp.Compare(b.span.Low, a.span.Low), cmp.Compare(a.vector, b.vector))
	})
	return open
}

// isAhead tells whether a vector is certain to stand ahead of another one.
func isAhead(a, b candidate) bool {
	return a.span.Low > b.span.High || a.span.Low == b.span.High && a.vector < b.vector
}

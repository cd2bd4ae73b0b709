package masks

import (
	"thicket/api"
	"thicket/bits"
	"thicket/trees"
)

// leavesOf are the numbers of a tree's leaves from left to right, if it is a tree and has no more of them than it may.
func leavesOf(t api.Tree) ([]int, api.Errno) {
	l, why := trees.Leaves(t)
	switch {
	case why != api.OK:
		return nil, why
	case len(l) > api.MaxLeaves:
		return nil, api.ErrMany
	}
	return l, api.OK
}

// leavesFor are these, if a vector has a number for each feature that is asked for.
func leavesFor(t api.Tree, x []float64) ([]int, api.Errno) {
	l, why := leavesOf(t)
	if why != api.OK {
		return nil, why
	}
	for _, n := range t.Nodes {
		if n.Kind != api.NodeLeaf && n.Feature >= len(x) {
			return nil, api.ErrVector
		}
	}
	return l, api.OK
}

// marksOf are the marks of a right tree. Calls nest as deep as the tree does; so few leaves make none that is too deep for it.
func marksOf(t api.Tree) []api.Mark {
	var marks []api.Mark
	var below func(node, from int) int
	below = func(node, from int) int { // where the leaves below a node end that begin at from
		n := &t.Nodes[node]
		if n.Kind == api.NodeLeaf {
			return from + 1
		}
		at := len(marks)
		marks = append(marks, api.Mark{Node: node, From: from})
		to := below(n.Left, from)
		marks[at].To = to
		return below(n.Right, to)
	}
	below(0, 0)
	return marks
}

// falseOf are those of them at whose nodes a vector that is long enough goes to the right.
func falseOf(t api.Tree, x []float64) []api.Mark {
	var l []api.Mark
	for _, m := range marksOf(t) {
		if n := t.Nodes[m.Node]; trees.Goes(n, x[n.Feature]) == api.SideRight {
			l = append(l, m)
		}
	}
	return l
}

// maskOf is a mark's mask. There is no error to tell: leaves are fewer than bits may be, and a mark lies within them.
func maskOf(m api.Mark, leaves int) []uint64 {
	mask, _ := bits.Mask(leaves, m.From, m.To)
	return mask
}

// reachOf is what the false nodes leave of so many leaves; the last leaf is in no mark, so one is always left.
func reachOf(t api.Tree, x []float64, leaves int) []uint64 {
	reach, _ := bits.Full(leaves)
	for _, m := range falseOf(t, x) {
		bits.Meet(reach, maskOf(m, leaves))
	}
	return reach
}

package trees

import (
	"math"

	"thicket/api"
)

// Shape tells whether nodes are a tree; the number of the first node at fault, where there is one.
func Shape(t api.Tree) (api.Errno, int) {
	if len(t.Nodes) == 0 {
		return api.ErrShape, 0
	}
	for i := range t.Nodes {
		if !isRight(&t.Nodes[i], len(t.Nodes)) {
			return api.ErrSplit, i
		}
	}
	if i := misplaced(t.Nodes); i != 0 {
		return api.ErrShape, i
	}
	return api.OK, 0
}

// isRight tells whether a node may be so, in a tree of so many nodes.
func isRight(n *api.Node, nodes int) bool {
	switch n.Kind {
	case api.NodeLeaf:
		return n.Feature == 0 && isBare(n) && n.Missing == api.SideNone && n.Left == 0 && n.Right == 0
	case api.NodeNumber:
		return isSplit(n, nodes) && !math.IsNaN(n.Threshold) && len(n.Cats) == 0
	case api.NodeCats:
		return isSplit(n, nodes) && isZero(n.Threshold) && areCats(n.Cats)
	}
	return false
}

// isBare tells whether a node says nothing that numbers could be held against.
func isBare(n *api.Node) bool { return isZero(n.Threshold) && len(n.Cats) == 0 }

// isZero tells it by the bits: a field that must be zero is not -0.
func isZero(v float64) bool { return math.Float64bits(v) == 0 }

// isSplit tells whether the fields are right that all inner nodes have.
func isSplit(n *api.Node, nodes int) bool {
	return n.Value == 0 && n.Feature >= 0 && n.Feature < api.MaxFeatures && isSide(n.Missing) && isBelow(n.Left, nodes) && isBelow(n.Right, nodes)
}

func isSide(s api.Side) bool { return s == api.SideLeft || s == api.SideRight }

// isBelow tells whether a number is that of a node that may stand below another one.
func isBelow(i, nodes int) bool { return i >= 1 && i < nodes }

// areCats tells whether there are some, they rise, and none is beyond the limit.
func areCats(l []int) bool {
	for i, c := range l {
		if c < 0 || c >= api.MaxCats || i > 0 && c <= l[i-1] {
			return false
		}
	}
	return len(l) > 0
}

// misplaced is the number of the first of right nodes that is not below just one, once, or is not reached; 0, if there is none: node 0 is always right in its place, as no right node has it as its Left or Right.
func misplaced(l []api.Node) int {
	above := make([]int, len(l))
	met := make([]bool, len(l))
	for i := range l {
		if n := &l[i]; isInner(n.Kind) {
			above[n.Left]++
			above[n.Right]++
		}
	}
	for i := range reached(l) {
		met[i] = true
	}
	for i := 1; i < len(l); i++ {
		if above[i] != 1 || !met[i] {
			return i
		}
	}
	return 0
}

package slim

import "thicket/api"

// walk goes down a right tree; let is what is let through, on the way so far, of the features that were asked for.
type walk struct {
	nodes []api.Node
	let   map[int]passing
}

func newWalk(nodes []api.Node) *walk { return &walk{nodes: nodes, let: map[int]passing{}} }

// past is what of a node's feature is let through to a side of it.
func (w *walk) past(n api.Node, side api.Side) passing {
	p, asked := w.let[n.Feature]
	if !asked {
		p = everything()
	}
	return p.past(n, side)
}

// passes tells whether a vector that comes to a node may go to that side.
func (w *walk) passes(n api.Node, side api.Side) bool {
	_, ok := w.past(n, side).least()
	return ok
}

// behind does something with what stands on a side of a node; what the node adds to what is let through is taken back.
func (w *walk) behind(n api.Node, side api.Side, do func(i int)) {
	before, asked := w.let[n.Feature]
	defer func() {
		if asked {
			w.let[n.Feature] = before
		} else {
			delete(w.let, n.Feature)
		}
	}()
	w.let[n.Feature] = w.past(n, side)
	if side == api.SideLeft {
		do(n.Left)
	} else {
		do(n.Right)
	}
}

// reached tells of each node whether a vector comes to it. Numbers of two features have nothing to do with one another, so one does, if of each feature something is let through.
func reached(nodes []api.Node) []bool {
	w := newWalk(nodes)
	l := make([]bool, len(nodes))
	var visit func(i int)
	visit = func(i int) {
		l[i] = true
		n := nodes[i]
		if n.Kind == api.NodeLeaf {
			return
		}
		for _, side := range []api.Side{api.SideLeft, api.SideRight} {
			if w.passes(n, side) {
				w.behind(n, side, visit)
			}
		}
	}
	visit(0)
	return l
}

// letTo is what is let through on the way to a node, of each feature that a node above asks for.
func letTo(nodes []api.Node, node int) map[int]passing {
	w := newWalk(nodes)
	above := parents(nodes)
	for i := node; i != 0; i = above[i] {
		n := nodes[above[i]]
		side := api.SideRight
		if n.Left == i {
			side = api.SideLeft
		}
		w.let[n.Feature] = w.past(n, side)
	}
	return w.let
}

// parents are the numbers of the nodes above, of each node but the root.
func parents(nodes []api.Node) []int {
	l := make([]int, len(nodes))
	for i, n := range nodes {
		if n.Kind != api.NodeLeaf {
			l[n.Left], l[n.Right] = i, i
		}
	}
	return l
}

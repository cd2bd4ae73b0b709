package cells

import (
	"iter"

	"thicket/api"
)

// fork is an inner node on the way to where a walk stands: the side that it went to there, and what was left of the node's feature ahead of it.
type fork struct {
	node   int
	side   api.Side
	before rest
}

// walk goes through a right tree; its way waits in a list, as a tree may be deeper than calls should nest.
type walk struct {
	nodes []api.Node
	rests []rest // by feature: what is left on the way to where it stands
	way   []fork
}

// onward is the next node that something of the box comes to, behind the last fork of the way; false, if there is none any more: then all that was taken from the rests is back.
func (w *walk) onward() (int, bool) {
	for len(w.way) > 0 {
		f := &w.way[len(w.way)-1]
		n := &w.nodes[f.node]
		if f.side == api.SideRight {
			w.rests[n.Feature] = f.before
			w.way = w.way[:len(w.way)-1]
			continue
		}
		f.side++ // from none to the left to the right
		r := f.before.past(n, f.side)
		if _, ok := r.least(); ok {
			w.rests[n.Feature] = r
			return sideOf(n, f.side), true
		}
	}
	return 0, false
}

// reached yields the numbers of the leaves that something comes to, from left to right; while one is yielded, rests are what is left on the way to it, and behind the last one they are as before. Numbers of two features have nothing to do with one another, so a leaf is reached, if of each feature something is left.
func reached(nodes []api.Node, rests []rest) iter.Seq[int] {
	return func(yield func(int) bool) {
		w := &walk{nodes: nodes, rests: rests}
		for i, ok := 0, true; ok; i, ok = w.onward() {
			if n := &nodes[i]; n.Kind != api.NodeLeaf {
				w.way = append(w.way, fork{node: i, before: rests[n.Feature]})
			} else if !yield(i) {
				return
			}
		}
	}
}

// restsTo is what is left of each span on the way to a node.
func restsTo(nodes []api.Node, node int, box []api.Span) []rest {
	above := make([]int, len(nodes))
	for i := range nodes {
		if n := &nodes[i]; n.Kind != api.NodeLeaf {
			above[n.Left], above[n.Right] = i, i
		}
	}
	rests := restsOf(box)
	for i := node; i != 0; i = above[i] {
		n := &nodes[above[i]]
		side := api.SideRight
		if n.Left == i {
			side = api.SideLeft
		}
		rests[n.Feature] = rests[n.Feature].past(n, side)
	}
	return rests
}

// sideOf is the number of the node on a side of an inner one.
func sideOf(n *api.Node, side api.Side) int {
	if side == api.SideLeft {
		return n.Left
	}
	return n.Right
}

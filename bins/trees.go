package bins

import (
	"cmp"
	"strconv"

	"thicket/api"
)

// copyOf is a list of its own memory, nil of an empty one.
func copyOf[T any](l []T) []T { return append([]T(nil), l...) }

// byFeature are the inner nodes of an ensemble, put together by what they ask for: so each feature's are looked at once, and not those of all the others too.
func byFeature(e api.Ensemble) []api.Tree {
	l := make([]api.Tree, len(e.Features))
	for _, t := range e.Trees {
		for _, n := range t.Nodes {
			if isInner(n.Kind) {
				l[n.Feature].Nodes = append(l[n.Feature].Nodes, n)
			}
		}
	}
	return l
}

func isInner(kind api.NodeKind) bool { return kind == api.NodeNumber || kind == api.NodeCats }

// binTree is a right tree over codes; its thresholds and categories are among the bins.
func binTree(b api.Bins, t api.Tree) api.BinTree {
	out := api.BinTree{Output: t.Output}
	for _, n := range t.Nodes {
		bin := api.BinNode{Kind: n.Kind, Value: n.Value, Feature: n.Feature, Missing: n.Missing, Left: n.Left, Right: n.Right}
		switch n.Kind {
		case api.NodeNumber:
			bin.Rank = scaleOf(b, n.Feature).rank(n.Threshold)
		case api.NodeCats:
			bin.Cats = scaleOf(b, n.Feature).ranksOf(n.Cats)
		}
		out.Nodes = append(out.Nodes, bin)
	}
	return out
}

// backTree is a tree with what stands at its places in right bins; false, if there is no such place.
func backTree(b api.Bins, t api.BinTree) (api.Tree, bool) {
	out := api.Tree{Output: t.Output}
	for _, n := range t.Nodes {
		back, ok := backNode(b, n)
		if !ok {
			return api.Tree{}, false
		}
		out.Nodes = append(out.Nodes, back)
	}
	return out, true
}

// backNode takes along what a node's kind does not use, too: it is for the rules to find that wrong.
func backNode(b api.Bins, n api.BinNode) (api.Node, bool) {
	back := api.Node{Kind: n.Kind, Value: n.Value, Feature: n.Feature, Cats: copyOf(n.Cats), Missing: n.Missing, Left: n.Left, Right: n.Right}
	if n.Kind != api.NodeNumber && n.Rank != 0 || isInner(n.Kind) && !isPlace(b.Cuts, n.Feature) {
		return api.Node{}, false
	}
	switch n.Kind {
	case api.NodeNumber:
		cuts := b.Cuts[n.Feature]
		if !isPlace(cuts, n.Rank) {
			return api.Node{}, false
		}
		back.Threshold = cuts[n.Rank]
	case api.NodeCats:
		cats := b.Cats[n.Feature]
		for i, at := range n.Cats {
			if !isPlace(cats, at) {
				return api.Node{}, false
			}
			back.Cats[i] = cats[at]
		}
	}
	return back, true
}

// names are those of so many features.
func names(many int) []string {
	l := make([]string, many)
	for i := range l {
		l[i] = "f" + strconv.Itoa(i)
	}
	return l
}

// sums is what an ensemble over codes says, where both are right.
func sums(m api.Binned, l []api.Code) []int64 {
	out := copyOf(m.Base)
	for _, t := range m.Trees {
		at := 0
		for isInner(t.Nodes[at].Kind) {
			at = next(&t.Nodes[at], l)
		}
		out[t.Output] += t.Nodes[at].Value
	}
	return out
}

// next is the node below an inner one that codes come to.
func next(n *api.BinNode, l []api.Code) int {
	if isLeft(n, l[n.Feature]) {
		return n.Left
	}
	return n.Right
}

func isLeft(n *api.BinNode, c api.Code) bool {
	switch {
	case c.Lost:
		return n.Missing == api.SideLeft
	case n.Kind == api.NodeNumber:
		return c.Bin <= n.Rank
	}
	_, ok := place(n.Cats, c.Cat, cmp.Compare[int])
	return ok
}

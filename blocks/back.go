package blocks

import (
	"cmp"
	"slices"

	"thicket/api"
)

// treesOf are the trees that a form is of, if it is right; else the number of the first block at fault. What stands behind a block does not matter to it, so that is the first one that is not right by itself.
func treesOf(f api.Form) ([]api.Tree, api.Errno, int) {
	if !isHead(f.Features, f.Outputs, f.Base) {
		return nil, api.ErrForm, 0
	}
	var all []api.Tree
	for i, b := range f.Blocks {
		l := treesOfBlock(b, len(all), f.Features, f.Outputs)
		if len(l) == 0 {
			return nil, api.ErrForm, i
		}
		all = append(all, l...)
	}
	return all, api.OK, 0
}

// treesOfBlock are the trees that a block is of, which stands behind so many others; none, if it is not right. How they are made leaves much unasked: what they are compiled to must be the block again.
func treesOfBlock(b api.Block, first, features, outputs int) []api.Tree {
	many := len(b.Values)
	if first+many > api.MaxTrees || len(b.Outputs) != many {
		return nil
	}
	var l []api.Tree
	for i, stems := range stemsOf(b) {
		t := api.Tree{Output: b.Outputs[i], Nodes: grown(stems, b.Values[i])}
		if errorOfTree(t, features, outputs) != api.OK {
			return nil
		}
		l = append(l, t)
	}
	if !sameBlocks(b, blockOf(l, first, features)) {
		return nil
	}
	return l
}

// spot is where a cut stands; no two nodes of a block have the same.
type spot struct{ tree, from, to int }

// stem is an inner node that has nothing below it yet, and the leaves that its cut takes out.
type stem struct {
	node     api.Node
	from, to int
}

// stemsOf are those of each tree of a block. A cut that is of none of them is left out, and so will be missed.
func stemsOf(b api.Block) [][]stem {
	stems := make([][]stem, len(b.Values))
	lost := lostOf(b)
	add := func(cuts []api.Cut, kind api.NodeKind, feature int) {
		for _, c := range cuts {
			if c.Tree < 0 || c.Tree >= len(stems) {
				continue
			}
			n := api.Node{Kind: kind, Feature: feature, Threshold: c.Threshold, Cats: copyOf(c.Cats), Missing: api.SideLeft}
			if _, ok := lost[spot{c.Tree, c.From, c.To}]; ok {
				n.Missing = api.SideRight
			}
			stems[c.Tree] = append(stems[c.Tree], stem{node: n, from: c.From, to: c.To})
		}
	}
	for _, l := range b.Lists {
		add(l.Numbers, api.NodeNumber, l.Feature)
		add(l.Cats, api.NodeCats, l.Feature)
	}
	return stems
}

// lostOf tells which cuts of a block are false of NaN.
func lostOf(b api.Block) map[spot]struct{} {
	lost := map[spot]struct{}{}
	for _, l := range b.Lists {
		for _, c := range l.Lost {
			lost[spot{c.Tree, c.From, c.To}] = struct{}{}
		}
	}
	return lost
}

// grown are the nodes of the tree that has these stems and leaves, each ahead of those below it, left ones first; none, if there is no such tree. With no more leaves than there may be, calls do not nest too deep.
func grown(l []stem, values []int64) []api.Node {
	if len(values) > api.MaxLeaves || len(l) != len(values)-1 {
		return nil
	}
	// In this order they stand in the tree: below a Right leaves begin later, below a Left they end earlier.
	slices.SortFunc(l, func(a, b stem) int { return cmp.Or(cmp.Compare(a.from, b.from), cmp.Compare(b.to, a.to)) })
	var nodes []api.Node
	next := 0 // n leaves take n - 1 stems, so there always is one
	var grow func(from, to int) bool
	grow = func(from, to int) bool {
		if to-from == 1 {
			nodes = append(nodes, api.Node{Kind: api.NodeLeaf, Value: values[from]})
			return true
		}
		s := l[next]
		next++
		if s.from != from || s.to <= from || s.to >= to {
			return false
		}
		at := len(nodes)
		nodes = append(nodes, s.node)
		nodes[at].Left = len(nodes)
		if !grow(from, s.to) {
			return false
		}
		nodes[at].Right = len(nodes)
		return grow(s.to, to)
	}
	if !grow(0, len(values)) {
		return nil
	}
	return nodes
}

package blocks

import (
	"thicket/api"
	"thicket/lists"
	"thicket/trees"
)

// errorOf is an ensemble's error: its head's, then that of the first tree that has one.
func errorOf(e api.Ensemble) api.Errno {
	if !isHead(len(e.Features), e.Outputs, e.Base) {
		return api.ErrSize
	}
	if len(e.Trees) > api.MaxTrees {
		return api.ErrMany
	}
	for _, t := range e.Trees {
		if why := errorOfTree(t, len(e.Features), e.Outputs); why != api.OK {
			return why
		}
	}
	return api.OK
}

// isHead tells whether an ensemble may have so many features and outputs, with this Base.
func isHead(features, outputs int, base []int64) bool {
	return features >= 0 && features <= api.MaxFeatures && outputs >= 1 && outputs <= api.MaxOutputs && len(base) == outputs
}

func errorOfTree(t api.Tree, features, outputs int) api.Errno {
	why, _ := trees.Shape(t)
	switch {
	case why != api.OK:
		return why
	case len(t.Nodes) > 2*api.MaxLeaves-1: // a tree has one inner node fewer than leaves
		return api.ErrMany
	case t.Output < 0 || t.Output >= outputs:
		return api.ErrSize
	}
	for _, n := range t.Nodes {
		if n.Kind != api.NodeLeaf && n.Feature >= features {
			return api.ErrVector
		}
	}
	return api.OK
}

// areBlocks tells whether runs cover so many trees, one behind another, none of them empty.
func areBlocks(l []api.Run, many int) bool {
	end := 0
	for _, r := range l {
		if r.From != end || r.To <= r.From {
			return false
		}
		end = r.To
	}
	return end == many
}

// formOf is the form of an ensemble without an error, in blocks of its trees.
func formOf(e api.Ensemble, l []api.Run) api.Form {
	f := api.Form{Features: len(e.Features), Outputs: e.Outputs, Base: copyOf(e.Base)}
	for _, r := range l {
		f.Blocks = append(f.Blocks, blockOf(e.Trees[r.From:r.To], r.From, len(e.Features)))
	}
	return f
}

// blockOf is the block of trees without an error, so there is none to tell of their lists and leaves either.
func blockOf(l []api.Tree, first, features int) api.Block {
	b := api.Block{First: first}
	b.Lists, _ = lists.Of(l, features)
	for _, t := range l {
		var values []int64
		leaves, _ := trees.Leaves(t)
		for _, i := range leaves {
			values = append(values, t.Nodes[i].Value)
		}
		b.Leaves = append(b.Leaves, len(leaves))
		b.Values = append(b.Values, values)
		b.Outputs = append(b.Outputs, t.Output)
	}
	return b
}

package code

import (
	"thicket/api"
	"thicket/trees"
)

// treeOps is the code of a tree behind what a program has so far.
func treeOps(t api.Tree, p *api.Program) ([]api.Op, api.Errno) {
	// Canon numbers nodes as their code stands, one behind the other, in memory of their own.
	c, why := trees.Canon(t)
	if why != api.OK {
		return nil, why
	}
	if c.Output < 0 || c.Output >= p.Outputs {
		return nil, api.ErrSize
	}
	for i := range c.Nodes {
		if c.Nodes[i].Feature >= p.Features && c.Nodes[i].Kind != api.NodeLeaf {
			return nil, api.ErrVector
		}
	}
	return nodesOps(c, len(p.Ops)), api.OK
}

// nodesOps is the code of a tree whose nodes stand in the code's order, beginning at a place.
func nodesOps(t api.Tree, begin int) []api.Op {
	places := placesOf(t.Nodes, begin)
	end := places[len(t.Nodes)]
	ops := make([]api.Op, 0, end-begin)
	for i := range t.Nodes {
		n := &t.Nodes[i]
		switch n.Kind {
		case api.NodeLeaf:
			ops = append(ops, add(t.Output, n.Value))
			if i < len(t.Nodes)-1 {
				ops = append(ops, jump(end))
			}
		case api.NodeNumber:
			ops = append(ops, api.Op{Kind: api.OpTest, Feature: n.Feature, Threshold: n.Threshold, Missing: n.Missing, To: places[n.Right]})
		case api.NodeCats:
			ops = append(ops, api.Op{Kind: api.OpIn, Feature: n.Feature, Cats: n.Cats, Missing: n.Missing, To: places[n.Right]})
		}
	}
	return ops
}

// placesOf are where the code of each node begins, and where that of all of them ends. The last node is the last leaf, which needs no jump.
func placesOf(l []api.Node, begin int) []int {
	places := make([]int, 0, len(l)+1)
	at := begin
	for i := range l {
		places = append(places, at)
		at++
		if l[i].Kind == api.NodeLeaf && i < len(l)-1 {
			at++
		}
	}
	return append(places, at)
}

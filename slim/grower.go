package slim

import (
	"thicket/api"
	"thicket/trees"
)

// grower puts a slim tree's nodes together, in the order that trees.Canon has. While it does, Left and Right of a node are told as how far behind it they stand: so two trees are alike wherever they stand just if they are, numbered by themselves.
type grower struct {
	*walk
	out []api.Node
}

// slimTree is the slim tree of a right tree's root.
func slimTree(t api.Tree) api.Tree {
	g := &grower{walk: newWalk(t.Nodes)}
	g.grow(0)
	out := api.Tree{Output: t.Output}
	for i, n := range g.out {
		n.Cats = copyOf(n.Cats)
		if n.Kind != api.NodeLeaf {
			n.Left += i
			n.Right += i
		}
		out.Nodes = append(out.Nodes, n)
	}
	return out
}

// grow puts the slim tree of a node behind what is there.
func (g *grower) grow(i int) {
	n := g.nodes[i]
	switch {
	case n.Kind == api.NodeLeaf:
		g.out = append(g.out, n)
	case !g.passes(n, api.SideLeft):
		g.grow(n.Right) // all goes there, so that adds nothing to what is let through
	case !g.passes(n, api.SideRight):
		g.grow(n.Left)
	default:
		g.fork(n)
	}
}

// fork puts a node and the slim trees of its sides there, or one of these alone, if they are alike.
func (g *grower) fork(n api.Node) {
	at := len(g.out)
	g.out = append(g.out, n)
	g.behind(n, api.SideLeft, g.grow)
	middle := len(g.out)
	g.behind(n, api.SideRight, g.grow)
	l, r := g.out[at+1:middle], g.out[middle:]
	if trees.Alike(api.Tree{Nodes: l}, api.Tree{Nodes: r}) {
		g.out = append(g.out[:at], l...)
		return
	}
	g.out[at].Left, g.out[at].Right = 1, middle-at
}

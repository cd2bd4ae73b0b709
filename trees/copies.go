package trees

import (
	"math"
	"slices"
	"strings"

	"thicket/api"
)

// Canon is the same tree, its nodes numbered anew: each ahead of those below it, left ones first.
func Canon(t api.Tree) (api.Tree, api.Errno) {
	if why, _ := Shape(t); why != api.OK {
		return api.Tree{}, why
	}
	anew := make([]int, len(t.Nodes))
	l := make([]api.Node, 0, len(t.Nodes))
	for i := range reached(t.Nodes) {
		anew[i] = len(l)
		l = append(l, copyNode(t.Nodes[i]))
	}
	for i, n := range l {
		l[i].Left, l[i].Right = anew[n.Left], anew[n.Right] // a leaf's stay 0, as node 0 stays the first
	}
	return api.Tree{Output: t.Output, Nodes: l}, api.OK
}

// Model is an ensemble whose trees are so numbered.
func Model(e api.Ensemble) (api.Ensemble, api.Errno) {
	m := copyHead(e)
	for _, t := range e.Trees {
		c, why := Canon(t)
		if why != api.OK {
			return api.Ensemble{}, why
		}
		m.Trees = append(m.Trees, c)
	}
	return m, api.OK
}

// Alike tells whether two trees are one, node by node, bit for bit.
func Alike(a, b api.Tree) bool {
	return a.Output == b.Output && slices.EqualFunc(a.Nodes, b.Nodes, alikeNodes)
}

func alikeNodes(a, b api.Node) bool {
	return a.Kind == b.Kind && a.Value == b.Value && a.Feature == b.Feature && math.Float64bits(a.Threshold) == math.Float64bits(b.Threshold) &&
		slices.Equal(a.Cats, b.Cats) && a.Missing == b.Missing && a.Left == b.Left && a.Right == b.Right
}

// Same tells whether two ensembles are one, tree by tree.
func Same(a, b api.Ensemble) bool {
	return a.Name == b.Name && slices.Equal(a.Features, b.Features) && a.Outputs == b.Outputs && slices.Equal(a.Base, b.Base) && slices.EqualFunc(a.Trees, b.Trees, Alike)
}

// Copy is an ensemble of its own memory.
func Copy(e api.Ensemble) api.Ensemble {
	c := copyHead(e)
	for _, t := range e.Trees {
		c.Trees = append(c.Trees, copyTree(t))
	}
	return c
}

// copyHead is all of an ensemble but its trees.
func copyHead(e api.Ensemble) api.Ensemble {
	var names []string
	for _, name := range e.Features {
		names = append(names, strings.Clone(name))
	}
	return api.Ensemble{Name: strings.Clone(e.Name), Features: names, Outputs: e.Outputs, Base: copyList(e.Base)}
}

func copyTree(t api.Tree) api.Tree {
	var l []api.Node
	for _, n := range t.Nodes {
		l = append(l, copyNode(n))
	}
	return api.Tree{Output: t.Output, Nodes: l}
}

func copyNode(n api.Node) api.Node {
	n.Cats = copyList(n.Cats)
	return n
}

// copyList is a list of its own memory, nil of an empty one: what slices.Clone makes of that would keep the place of its room.
func copyList[T any](l []T) []T { return append([]T(nil), l...) }

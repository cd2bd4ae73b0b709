package lists

import (
	"math"
	"testing"

	"thicket/api"
)

// chain is a tree with so many leaves that leans all to one side, of nodes with that feature.
func chain(leaves int, side api.Side, feature int) api.Tree {
	var t api.Tree
	for i := range leaves - 1 {
		n := numberOf(feature, float64(i%5), right, 2*i+2, 2*i+1)
		if side == right {
			n.Left, n.Right = n.Right, n.Left
		}
		t.Nodes = append(t.Nodes, n, leafOf(int64(i)))
	}
	t.Nodes = append(t.Nodes, leafOf(int64(leaves-1)))
	return t
}

// alike are so many trees that share their nodes.
func alike(many int, g api.Tree) []api.Tree {
	l := make([]api.Tree, many)
	for i := range l {
		l[i] = g
	}
	return l
}

func TestLimitOfFeatures(t *testing.T) {
	for _, features := range []int{-1, math.MinInt, api.MaxFeatures + 1, math.MaxInt} {
		refused(t, "features out of range", nil, features, api.ErrRange)
		refused(t, "features out of range", []api.Tree{treeA()}, features, api.ErrRange)
	}
	listed(t, "no features", nil, 0)
	listed(t, "all features", nil, api.MaxFeatures)
	last := []api.Tree{stump(numberOf(api.MaxFeatures-1, 3, left, 0, 0))}
	listed(t, "the last feature", last, api.MaxFeatures, api.List{Feature: api.MaxFeatures - 1, Numbers: []api.Cut{cut(3, 0, 0, 1)}})
	refused(t, "one feature fewer", last, api.MaxFeatures-1, api.ErrVector)
	refused(t, "no features", last, 0, api.ErrVector)
	refused(t, "a feature that no tree may have", []api.Tree{stump(numberOf(api.MaxFeatures, 3, left, 0, 0))}, api.MaxFeatures, api.ErrSplit)
	// Where in its tree a node stands does not matter, nor does its kind.
	for features := range 4 {
		deep := []api.Tree{treeB(), treeOf(numberOf(0, 0, left, 1, 2), leafOf(1), catsOf(3, left, 3, 4, 0), leafOf(2), leafOf(3))}
		refused(t, "below another node", deep, features, api.ErrVector)
	}
}

func TestLimitOfTrees(t *testing.T) {
	leaf := treeOf(leafOf(1))
	listed(t, "MaxTrees leaves", alike(api.MaxTrees, leaf), 0)
	refused(t, "one more", alike(api.MaxTrees+1, leaf), 0, api.ErrMany)
	l, why := Of(alike(api.MaxTrees, treeA()), 2)
	if why != api.OK || len(l) != 1 || len(l[0].Numbers) != api.MaxTrees || len(l[0].Lost) != api.MaxTrees {
		t.Fatalf("P14.1: MaxTrees trees: %d lists, %d", len(l), why)
	}
	for i := range api.MaxTrees {
		if l[0].Numbers[i].Tree != i || l[0].Lost[i].Tree != i {
			t.Fatalf("P14.1: tree %d at %d", l[0].Numbers[i].Tree, i)
		}
	}
	if th := Thresholds(alike(api.MaxTrees+1, treeA()), 1); len(th) != 1 { // who asks for these has no limit
		t.Error("P14.4: Thresholds of more trees:", th)
	}
}

func TestLimitOfLeaves(t *testing.T) {
	for _, side := range []api.Side{left, right} {
		l, why := Of([]api.Tree{treeA(), chain(api.MaxLeaves, side, 1)}, 2)
		if why != api.OK || len(l) != 1 || len(l[0].Numbers) != api.MaxLeaves {
			t.Errorf("P14.1: MaxLeaves leaves: %d lists, %d", len(l), why)
		}
		refused(t, "one leaf more", []api.Tree{treeA(), chain(api.MaxLeaves+1, side, 1)}, 2, api.ErrMany)
		refused(t, "a deep tree", []api.Tree{chain(1<<18, side, 1)}, 2, api.ErrMany)
	}
}

// flawed are trees that each have one flaw, if there are two features.
func flawed() map[api.Errno]api.Tree {
	split := treeB()
	split.Nodes[1].Cats = []int{4, 4}
	return map[api.Errno]api.Tree{api.ErrShape: treeOf(leafOf(1), leafOf(2)), api.ErrSplit: split, api.ErrMany: chain(api.MaxLeaves+1, left, 0), api.ErrVector: stump(catsOf(2, right, 0, 0, 1))}
}

// The first tree that has an error tells it, whatever stands behind it.
func TestErrorsTreeByTree(t *testing.T) {
	for why, g := range flawed() {
		refused(t, "alone", []api.Tree{g}, 2, why)
		refused(t, "behind right ones", []api.Tree{treeA(), treeB(), treeOf(leafOf(1)), g}, 2, why)
		refused(t, "ahead of right ones", []api.Tree{g, treeA(), treeB()}, 2, why)
		for _, other := range flawed() {
			refused(t, "ahead of another one", []api.Tree{treeA(), g, treeB(), other}, 2, why)
		}
		refused(t, "and features out of range", []api.Tree{g}, -1, api.ErrRange)
		refused(t, "and features out of range", []api.Tree{treeA(), g}, api.MaxFeatures+1, api.ErrRange)
		refused(t, "and too many trees", alike(api.MaxTrees+1, g), 2, api.ErrMany)
		refused(t, "and too many trees behind", append([]api.Tree{g}, alike(api.MaxTrees, treeA())...), 2, api.ErrMany)
		refused(t, "as the last one", append(alike(api.MaxTrees-1, treeOf(leafOf(1))), g), 2, why)
	}
	refused(t, "features and too many trees", alike(api.MaxTrees+1, treeA()), -1, api.ErrRange)
	refused(t, "features and too many trees", alike(api.MaxTrees+1, treeA()), api.MaxFeatures+1, api.ErrRange)
	refused(t, "no nodes", []api.Tree{treeA(), {}}, 2, api.ErrShape)
	refused(t, "no nodes", []api.Tree{{Nodes: []api.Node{}}}, 0, api.ErrShape)
}

// Of one tree the first error is told: its nodes, their places, its leaves, its features.
func TestErrorsOfOneTree(t *testing.T) {
	for which := 1; which < 16; which++ {
		split, shape, many, beyond := which&1 > 0, which&2 > 0, which&4 > 0, which&8 > 0
		leaves, features := 9, 2
		if many {
			leaves = api.MaxLeaves + 1
		}
		if beyond {
			features = 1
		}
		g := chain(leaves, right, 1)
		if shape {
			g.Nodes = append(g.Nodes, leafOf(1))
		}
		if split {
			g.Nodes[len(g.Nodes)-1].Left = 1
		}
		why := api.ErrVector
		switch {
		case split:
			why = api.ErrSplit
		case shape:
			why = api.ErrShape
		case many:
			why = api.ErrMany
		}
		refused(t, "P3: several errors", []api.Tree{treeOf(leafOf(1)), g}, features, why)
	}
}

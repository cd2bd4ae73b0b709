package masks

import (
	"reflect"
	"testing"

	"thicket/api"
)

// refused holds all calls to an error; those without a vector to another one, or to none.
func refused(t *testing.T, what string, g api.Tree, x []float64, bare, why api.Errno) {
	t.Helper()
	s := asked(g, x)
	if s.why != [5]api.Errno{bare, bare, why, why, why} {
		t.Errorf("%s: %d, not %d and %d", what, s.why, bare, why)
	}
	if bare != api.OK && (s.marks != nil || s.masks != nil) || s.wrong != nil || s.reach != nil || s.exit != 0 || s.value != 0 {
		t.Errorf("P2: %s: %v beside an error", what, s)
	}
}

func TestWrongTrees(t *testing.T) {
	long := []float64{1, 2, 3}
	for what, g := range map[string]api.Tree{"no nodes": {}, "no node of none": {Output: 3, Nodes: []api.Node{}}, "a loose leaf": treeOf(leafOf(1), leafOf(2)),
		"below two": treeOf(numberOf(0, 0, left, 1, 1), leafOf(1)), "a ring": treeOf(leafOf(0), numberOf(0, 0, left, 2, 3), numberOf(0, 0, left, 1, 4), leafOf(1), leafOf(2))} {
		refused(t, what, g, long, api.ErrShape, api.ErrShape)
		refused(t, what, g, nil, api.ErrShape, api.ErrShape)
	}
	for what, turn := range map[string]func(n *api.Node){
		"no kind": func(n *api.Node) { n.Kind = api.NodeNone }, "kind 4": func(n *api.Node) { n.Kind = api.NodeCount }, "kind 255": func(n *api.Node) { n.Kind = 255 }, "a value": func(n *api.Node) { n.Value = 1 },
		"NaN": func(n *api.Node) { n.Threshold = nan }, "no side": func(n *api.Node) { n.Missing = api.SideNone }, "Cats": func(n *api.Node) { n.Cats = []int{1} }, "feature -1": func(n *api.Node) { n.Feature = -1 },
		"a feature beyond": func(n *api.Node) { n.Feature = api.MaxFeatures }, "Left 0": func(n *api.Node) { n.Left = 0 }, "Right -1": func(n *api.Node) { n.Right = -1 }, "Right beyond": func(n *api.Node) { n.Right = 5 },
	} {
		g := grown()
		turn(&g.Nodes[0])
		refused(t, what, g, long, api.ErrSplit, api.ErrSplit)
		refused(t, what, g, nil, api.ErrSplit, api.ErrSplit)
	}
	for what, cats := range map[string][]int{"none": nil, "falling": {3, 1}, "twice": {1, 1}, "below 0": {-1}, "beyond": {api.MaxCats}} {
		g := grown()
		g.Nodes[2].Cats = cats
		refused(t, what, g, long, api.ErrSplit, api.ErrSplit)
	}
}

// A vector is too short if any inner node asks for more, though the vector would not come by it; a leaf asks for nothing.
func TestShortVectors(t *testing.T) {
	g := treeOf(numberOf(0, 0, left, 1, 2), leafOf(1), numberOf(5, 0, left, 3, 4), leafOf(2), catsOf(2, left, 5, 6, 0), leafOf(3), leafOf(4))
	for many := range 6 {
		refused(t, "13: a short vector", g, make([]float64, many), api.OK, api.ErrVector)
	}
	for many := 6; many < 9; many++ {
		if s := asked(g, make([]float64, many)); s.why != [5]api.Errno{} || s.exit != 0 || s.value != 1 {
			t.Errorf("13: %d numbers: %v", many, s)
		}
	}
	refused(t, "13: no vector", g, nil, api.OK, api.ErrVector)
	refused(t, "13: chapter 7's example", grown(), []float64{1}, api.OK, api.ErrVector)
}

func TestLimitOfLeaves(t *testing.T) {
	x := []float64{1, 2}
	for what, tree := range map[string]func(leaves int) api.Tree{
		"leaning left": func(leaves int) api.Tree { return chain(leaves, left) }, "leaning right": func(leaves int) api.Tree { return chain(leaves, right) },
		"bushy": bushy, "any": func(leaves int) api.Tree { return someTree(source(), leaves, 2) },
	} {
		if s := asked(tree(api.MaxLeaves), x); s.why != [5]api.Errno{} || len(s.marks) != api.MaxLeaves-1 || len(s.masks) != api.MaxLeaves-1 || len(s.reach) != 64 {
			t.Errorf("13: %s: MaxLeaves leaves: %d, %d marks, %d masks", what, s.why, len(s.marks), len(s.masks))
		}
		refused(t, what+": one leaf more", tree(api.MaxLeaves+1), x, api.ErrMany, api.ErrMany)
	}
	for _, side := range []api.Side{left, right} {
		refused(t, "a deep tree", chain(1<<18, side), x, api.ErrMany, api.ErrMany)
	}
}

// Of several errors the first is told: a node that is not right, nodes that are no tree, too many leaves, a short vector.
func TestTwoErrors(t *testing.T) {
	for which := range 16 {
		split, shape, many, short := which&1 > 0, which&2 > 0, which&4 > 0, which&8 > 0
		leaves, x := 9, []float64{1, 2}
		if many {
			leaves = api.MaxLeaves + 1
		}
		if short {
			x = x[:1]
		}
		g := bushy(leaves)
		if shape {
			g.Nodes = append(g.Nodes, leafOf(1))
		}
		if split {
			g.Nodes[len(g.Nodes)-1].Missing = left
		}
		var bare api.Errno
		switch {
		case split:
			bare = api.ErrSplit
		case shape:
			bare = api.ErrShape
		case many:
			bare = api.ErrMany
		}
		why := bare
		if why == api.OK && short {
			why = api.ErrVector
		}
		if why == api.OK {
			says(t, "nothing wrong", g, x, byWords(g, x))
			continue
		}
		refused(t, "P3: several errors", g, x, bare, why)
	}
	// Nodes that are none come ahead of a vector that is none.
	if s := asked(api.Tree{}, nil); !reflect.DeepEqual(s, said{why: [5]api.Errno{70, 70, 70, 70, 70}}) {
		t.Error("P3: nothing at all:", s)
	}
}

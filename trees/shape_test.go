package trees

import (
	"math"
	"math/rand/v2"
	"slices"
	"testing"

	"thicket/api"
)

func TestExamplesOfShape(t *testing.T) {
	bent := func(want api.Errno, place int, how func(g *api.Tree)) {
		t.Helper()
		g := grown()
		how(&g)
		if why, at := Shape(g); why != want || at != place {
			t.Errorf("7.1: %v: %d at %d, not %d at %d", g, why, at, want, place)
		}
	}
	bent(api.ErrShape, 1, func(g *api.Tree) { g.Nodes[2].Left = 1 })
	bent(api.ErrSplit, 0, func(g *api.Tree) { g.Nodes[0].Right = 0 })
	bent(api.ErrSplit, 2, func(g *api.Tree) { g.Nodes[2].Cats = []int{3, 1} })
	bent(api.ErrShape, 0, func(g *api.Tree) { g.Nodes = nil })
	bent(api.ErrShape, 0, func(g *api.Tree) { g.Nodes = []api.Node{} })
	bent(api.ErrShape, 1, func(g *api.Tree) { g.Nodes = []api.Node{leafOf(1), leafOf(2)} })
	bent(api.ErrShape, 1, func(g *api.Tree) {
		g.Nodes = []api.Node{leafOf(0), numberOf(0, 0, left, 2, 3), numberOf(0, 0, left, 1, 4), leafOf(0), leafOf(0)}
	})
	bent(api.OK, 0, func(g *api.Tree) { g.Output = -77 }) // not looked at
}

// Nodes that stand wrong: below none, below one twice, below two, in a ring.
func TestNodesOutOfPlace(t *testing.T) {
	for _, c := range []struct {
		at    int
		nodes []api.Node
	}{
		{1, []api.Node{numberOf(0, 0, left, 2, 3), leafOf(0), leafOf(0), leafOf(0)}},
		{3, []api.Node{numberOf(0, 0, left, 1, 2), leafOf(0), leafOf(0), leafOf(0)}},
		{1, []api.Node{numberOf(0, 0, left, 1, 1), leafOf(0)}},
		{1, []api.Node{numberOf(0, 0, left, 1, 1), leafOf(0), leafOf(0)}},
		{1, []api.Node{numberOf(0, 0, left, 2, 2), leafOf(0), leafOf(0)}},
		{2, []api.Node{numberOf(0, 0, left, 1, 2), numberOf(0, 0, left, 2, 3), leafOf(0), leafOf(0)}},
		{3, []api.Node{numberOf(0, 0, left, 1, 2), numberOf(0, 0, left, 3, 4), numberOf(0, 0, left, 3, 5), leafOf(0), leafOf(0), leafOf(0)}},
		{1, []api.Node{numberOf(0, 0, left, 1, 2), numberOf(0, 0, left, 1, 3), leafOf(0), leafOf(0)}},                                                        // below itself too
		{3, []api.Node{numberOf(0, 0, left, 1, 2), leafOf(0), leafOf(0), numberOf(0, 0, left, 3, 4), leafOf(0)}},                                             // below itself alone
		{3, []api.Node{numberOf(0, 0, left, 1, 2), leafOf(0), leafOf(0), numberOf(0, 0, left, 5, 4), leafOf(0), catsOf(0, right, 3, 6, 1), leafOf(0)}},       // a ring beside
		{1, []api.Node{leafOf(0), numberOf(0, 0, left, 2, 3), leafOf(0), leafOf(0)}},                                                                         // a tree beside: its root is below none
		{2, []api.Node{numberOf(0, 0, left, 1, 3), leafOf(0), numberOf(0, 0, left, 4, 5), leafOf(0), leafOf(0), numberOf(0, 0, left, 2, 6), leafOf(0)}},      // each below one, not reached
		{1, []api.Node{leafOf(0), leafOf(0), numberOf(0, 0, left, 2, 1)}},                                                                                    // below one, not reached
		{1, []api.Node{numberOf(0, 0, left, 1, 2), numberOf(0, 0, left, 2, 1), numberOf(0, 0, left, 1, 2)}},                                                  // no leaf at all
		{4, []api.Node{catsOf(0, left, 1, 2, 0), catsOf(0, left, 3, 5, 0), leafOf(0), leafOf(0), catsOf(0, left, 4, 6, 0), leafOf(0), leafOf(0), leafOf(0)}}, // the first of two
	} {
		if why, at := Shape(treeOf(c.nodes...)); why != api.ErrShape || at != c.at {
			t.Errorf("7.1: %v: %d at %d, not at %d", c.nodes, why, at, c.at)
		}
	}
}

// bends are what can be wrong or right of a node of the kinds, in a tree of three nodes.
func bends() map[api.NodeKind]map[bool][]func(n *api.Node) {
	both := map[bool][]func(n *api.Node){
		true: {
			func(n *api.Node) {}, func(n *api.Node) { n.Feature = api.MaxFeatures - 1 }, func(n *api.Node) { n.Missing = right }, func(n *api.Node) { n.Left, n.Right = 2, 1 },
			func(n *api.Node) { n.Threshold = 0 },
		},
		false: {
			func(n *api.Node) { n.Value = 1 }, func(n *api.Node) { n.Value = math.MinInt64 }, func(n *api.Node) { n.Feature = -1 }, func(n *api.Node) { n.Feature = api.MaxFeatures },
			func(n *api.Node) { n.Feature = math.MinInt }, func(n *api.Node) { n.Feature = math.MaxInt }, func(n *api.Node) { n.Missing = api.SideNone }, func(n *api.Node) { n.Missing = 3 },
			func(n *api.Node) { n.Missing = 255 }, func(n *api.Node) { n.Left = 0 }, func(n *api.Node) { n.Left = 3 }, func(n *api.Node) { n.Left = -1 }, func(n *api.Node) { n.Right = 0 },
			func(n *api.Node) { n.Right = 3 }, func(n *api.Node) { n.Right = math.MaxInt }, func(n *api.Node) { n.Left = math.MinInt }, func(n *api.Node) { n.Threshold = nan },
			func(n *api.Node) { n.Threshold = math.Float64frombits(0xfff0000000000001) }, func(n *api.Node) { n.Kind = api.NodeNone }, func(n *api.Node) { n.Kind = api.NodeLeaf },
			func(n *api.Node) { n.Kind = api.NodeCount }, func(n *api.Node) { n.Kind = 255 },
		},
	}
	with := func(yes, no []func(n *api.Node)) map[bool][]func(n *api.Node) {
		return map[bool][]func(n *api.Node){true: slices.Concat(both[true], yes), false: slices.Concat(both[false], no)}
	}
	var all []int
	for c := range api.MaxCats {
		all = append(all, c)
	}
	threshold := func(v float64) func(n *api.Node) { return func(n *api.Node) { n.Threshold = v } }
	cats := func(l ...int) func(n *api.Node) { return func(n *api.Node) { n.Cats = l } }
	return map[api.NodeKind]map[bool][]func(n *api.Node){
		api.NodeNumber: with(
			[]func(n *api.Node){threshold(minus0), threshold(endless), threshold(-endless), threshold(5e-324), threshold(math.MaxFloat64), cats(), cats([]int{}...)},
			[]func(n *api.Node){cats(1), cats(0)}),
		api.NodeCats: with(
			[]func(n *api.Node){cats(0), cats(api.MaxCats - 1), cats(0, 1, 2), cats(5, 1023), cats(all...)},
			[]func(n *api.Node){threshold(minus0), threshold(endless), threshold(5e-324), cats(), cats([]int{}...), cats(-1), cats(api.MaxCats), cats(-1, 3), cats(3, 1), cats(3, 3), cats(1, 2, 2), cats(0, 1, api.MaxCats), cats(1, 3, 2), cats(math.MinInt), cats(math.MaxInt)}),
		api.NodeLeaf: {
			true: {func(n *api.Node) {}, func(n *api.Node) { n.Value = math.MinInt64 }, func(n *api.Node) { n.Value = math.MaxInt64 }, cats([]int{}...)},
			false: {
				func(n *api.Node) { n.Feature = 1 }, func(n *api.Node) { n.Feature = -1 }, threshold(minus0), threshold(1), threshold(nan), threshold(5e-324), cats(0), cats(1, 2), func(n *api.Node) { n.Missing = left }, func(n *api.Node) { n.Missing = 9 },
				func(n *api.Node) { n.Left = 1 }, func(n *api.Node) { n.Right = 2 }, func(n *api.Node) { n.Left = -1 }, func(n *api.Node) { n.Right = -1 },
			},
		},
	}
}

func TestRightNodes(t *testing.T) {
	for kind, both := range bends() {
		for want, how := range both {
			for i, bend := range how {
				g := treeOf(numberOf(0, 0, left, 1, 2), leafOf(1), leafOf(2))
				at := 0
				switch kind {
				case api.NodeCats:
					g.Nodes[0] = catsOf(0, left, 1, 2, 7)
				case api.NodeLeaf:
					at = 2
				}
				bend(&g.Nodes[at])
				why, place := Shape(g)
				if want && (why != api.OK || place != 0) || !want && (why != api.ErrSplit || place != at) {
					t.Errorf("7.1: kind %d, %v, %d: %d at %d", kind, want, i, why, place)
				}
			}
		}
	}
}

// Of several nodes at fault the first one is told; one that is not right ahead of one that stands wrong, wherever.
func TestFirstNodeAtFault(t *testing.T) {
	g := chain(20, right)
	for i := range g.Nodes {
		for j := i; j < len(g.Nodes); j++ {
			b := treeOf(slices.Clone(g.Nodes)...)
			b.Nodes[j].Kind, b.Nodes[i].Kind = 0, api.NodeCount
			if why, at := Shape(b); why != api.ErrSplit || at != i {
				t.Fatalf("7.1: %d at %d, not at %d", why, at, i)
			}
		}
	}
	b := treeOf(append(slices.Clone(g.Nodes), leafOf(1), leafOf(2), api.Node{})...)
	if why, at := Shape(b); why != api.ErrSplit || at != len(b.Nodes)-1 {
		t.Errorf("7.1: %d at %d", why, at)
	}
	b.Nodes = b.Nodes[:len(b.Nodes)-1]
	if why, at := Shape(b); why != api.ErrShape || at != len(b.Nodes)-2 {
		t.Errorf("7.1: %d at %d", why, at)
	}
}

// shapeByWords says it as the chapter does, for nodes that are leaves or right but for Left and Right.
func shapeByWords(l []api.Node) (api.Errno, int) {
	for i, n := range l {
		if n.Kind == api.NodeNumber && !(n.Left >= 1 && n.Left <= len(l)-1 && n.Right >= 1 && n.Right <= len(l)-1) {
			return api.ErrSplit, i
		}
	}
	comes := map[int]bool{0: true}
	for range l { // a way has no more steps than there are nodes
		for i, n := range l {
			if comes[i] && n.Kind == api.NodeNumber {
				comes[n.Left], comes[n.Right] = true, true
			}
		}
	}
	for i := range l {
		above := 0
		for _, n := range l {
			if n.Left == i && n.Kind == api.NodeNumber {
				above++
			}
			if n.Right == i && n.Kind == api.NodeNumber {
				above++
			}
		}
		if i == 0 && above != 0 || i > 0 && (above != 1 || !comes[i]) {
			return api.ErrShape, i
		}
	}
	return api.OK, 0
}

// allNodes hands over all lists of so many nodes that are leaves, or have their Left and Right from low to high.
func allNodes(many, low, high int, take func(l []api.Node)) {
	l := make([]api.Node, many)
	var fill func(i int)
	fill = func(i int) {
		if i == many {
			take(l)
			return
		}
		l[i] = leafOf(0)
		fill(i + 1)
		for a := low; a <= high; a++ {
			for b := low; b <= high; b++ {
				l[i] = numberOf(0, 0, left, a, b)
				fill(i + 1)
			}
		}
	}
	fill(0)
}

func TestShapeOfAllSmallLists(t *testing.T) {
	right, tried := 0, 0
	try := func(l []api.Node) {
		want, place := shapeByWords(l)
		why, at := Shape(treeOf(l...))
		if why != want || at != place {
			t.Fatalf("7.1: %v: %d at %d, not %d at %d", l, why, at, want, place)
		}
		if tried++; why == api.OK {
			right++
		}
	}
	for many := 1; many <= 3; many++ {
		allNodes(many, -1, many, try)
	}
	allNodes(4, 1, 3, try)
	// 1 tree of one node, 2 of three (their leaves either way), none of two or four.
	if right != 3 {
		t.Error("7.1: right lists:", right, "of", tried)
	}
	r := rand.New(rand.NewPCG(1, 2))
	for range 20000 {
		l := make([]api.Node, 5+r.IntN(5))
		for i := range l {
			if l[i] = leafOf(0); r.IntN(2) == 0 {
				l[i] = numberOf(0, 0, left, 1+r.IntN(len(l)-1), 1+r.IntN(len(l)-1))
			}
		}
		try(l)
	}
	for _, g := range someTrees(r, 30) { // trees of which one edge is turned to another node
		l := slices.Clone(g.Nodes)
		for i := range l {
			if l[i].Kind == api.NodeCats {
				l[i] = numberOf(0, 0, left, l[i].Left, l[i].Right)
			}
		}
		try(l)
		for i := range l {
			if l[i].Kind == api.NodeNumber {
				l[i].Left = 1 + r.IntN(len(l)-1)
				try(l)
				break
			}
		}
	}
}

package slim

import (
	"math"
	"math/rand/v2"
	"slices"
	"testing"

	"thicket/api"
	"thicket/order"
	"thicket/rules"
	"thicket/trees"
)

// A second opinion, from the chapter's words.

// numbersOf are all numbers that matter for a feature of a tree: thresholds, categories, those beside them, and others.
func numbersOf(g api.Tree, feature int) []float64 {
	l := []float64{nan, endless, -endless, 0, minus0, 0.5, 1e300}
	for _, n := range g.Nodes {
		if n.Kind == api.NodeLeaf || n.Feature != feature {
			continue
		}
		if n.Kind == api.NodeNumber {
			l = append(l, n.Threshold, next(n.Threshold), prev(n.Threshold))
		}
		for _, c := range n.Cats {
			v := float64(c)
			l = append(l, v, v+0.5, next(v), prev(v))
		}
	}
	return order.Sorted(l)
}

// step is a node above another one, and the side on which the way goes on.
type step struct {
	node api.Node
	side api.Side
}

// stepsTo are the steps to each node of a right tree.
func stepsTo(g api.Tree) [][]step {
	l := make([][]step, len(g.Nodes))
	var visit func(i int)
	visit = func(i int) {
		n := g.Nodes[i]
		if n.Kind == api.NodeLeaf {
			return
		}
		l[n.Left] = append(slices.Clone(l[i]), step{n, left})
		l[n.Right] = append(slices.Clone(l[i]), step{n, right})
		visit(n.Left)
		visit(n.Right)
	}
	visit(0)
	return l
}

// witnessByWords is the vector of the numbers with the least keys; false, if the node is dead.
func witnessByWords(g api.Tree, steps []step, d int) ([]float64, bool) {
	x := make([]float64, d)
	for feature := range d {
		isAsked, found := false, false
		for _, s := range steps {
			isAsked = isAsked || s.node.Feature == feature
		}
		for _, v := range numbersOf(g, feature) {
			through := isAsked && !found
			for _, s := range steps {
				through = through && (s.node.Feature != feature || trees.Goes(s.node, v) == s.side)
			}
			if through {
				x[feature], found = v+0, true
			}
		}
		if isAsked && !found {
			return nil, false
		}
	}
	return x, true
}

func deadByWords(g api.Tree) []bool {
	var l []bool
	for _, steps := range stepsTo(g) {
		_, ok := witnessByWords(g, steps, asked(g))
		l = append(l, !ok)
	}
	return l
}

// deadByVectors tries all vectors that matter.
func deadByVectors(t *testing.T, g api.Tree) []bool {
	l := slices.Repeat([]bool{true}, len(g.Nodes))
	x := make([]float64, asked(g))
	var try func(feature int)
	try = func(feature int) {
		if feature == len(x) {
			way, why := trees.Way(g, x)
			if why != api.OK {
				t.Fatal(why)
			}
			for _, i := range way {
				l[i] = false
			}
			return
		}
		for _, v := range numbersOf(g, feature) {
			x[feature] = v
			try(feature + 1)
		}
	}
	try(0)
	return l
}

// treeByWords is the slim tree of a node, by its own words.
func treeByWords(g api.Tree, i int, dead []bool) api.Tree {
	n := g.Nodes[i]
	switch {
	case n.Kind == api.NodeLeaf:
		return leaf(n.Value)
	case dead[n.Left]:
		return treeByWords(g, n.Right, dead)
	case dead[n.Right]:
		return treeByWords(g, n.Left, dead)
	}
	l, _ := trees.Canon(treeByWords(g, n.Left, dead))
	r, _ := trees.Canon(treeByWords(g, n.Right, dead))
	if trees.Alike(l, r) {
		return l
	}
	return fork(n, l, r)
}

func slimByWords(e api.Ensemble) api.Ensemble {
	out := trees.Copy(e)
	out.Trees = nil
	for _, g := range e.Trees {
		s, _ := trees.Canon(treeByWords(g, 0, deadByWords(g)))
		s.Output = g.Output
		if len(s.Nodes) == 1 {
			out.Base[g.Output] += s.Nodes[0].Value
		} else {
			out.Trees = append(out.Trees, s)
		}
	}
	return out
}

func someThreshold(r *rand.Rand) float64 {
	v := []float64{0, minus0, 1, 2, 3, 4, -1, 0.5, endless, -endless}[r.IntN(10)]
	switch r.IntN(5) {
	case 0:
		return next(v)
	case 1:
		return prev(v)
	}
	return v
}

func someCats(r *rand.Rand) []int {
	var l []int
	for _, c := range []int{0, 1, 2, 3, 4, 1023} {
		if r.IntN(3) == 0 {
			l = append(l, c)
		}
	}
	if len(l) == 0 {
		return []int{r.IntN(6)}
	}
	return l
}

// someTree is a right tree whose nodes are numbered at random; it has few values, thresholds and categories, so much of it can go.
func someTree(r *rand.Rand, inner, features int) api.Tree {
	values := 1 + r.Int64N(4)
	nodes := []api.Node{leafOf(r.Int64N(values))}
	for range inner {
		i := r.IntN(len(nodes))
		for nodes[i].Kind != api.NodeLeaf {
			i = r.IntN(len(nodes))
		}
		n := numberOf(r.IntN(features), someThreshold(r), api.Side(1+r.IntN(2)), len(nodes), len(nodes)+1)
		if r.IntN(3) == 0 {
			n = catsOf(n.Feature, n.Missing, n.Left, n.Right, someCats(r)...)
		}
		if r.IntN(2) == 0 {
			n.Left, n.Right = n.Right, n.Left
		}
		nodes[i] = n
		nodes = append(nodes, leafOf(r.Int64N(values)), leafOf(r.Int64N(values)))
	}
	return api.Tree{Output: r.IntN(2), Nodes: nodes}
}

func someEnsemble(r *rand.Rand, many, features int) api.Ensemble {
	e := ensemble(features)
	e.Outputs, e.Base = 2, []int64{r.Int64N(1000) - 500, r.Int64N(1000)}
	for range many {
		e.Trees = append(e.Trees, someTree(r, r.IntN(10), features))
	}
	return e
}

// isTree holds all that is said of a tree to the words.
func isTree(t *testing.T, g api.Tree) {
	t.Helper()
	dead, steps := deadByWords(g), stepsTo(g)
	var want []int
	for i, no := range dead {
		if no {
			want = append(want, i)
		}
	}
	isDead(t, "some tree", g, want...)
	for i := range g.Nodes {
		if x, ok := witnessByWords(g, steps[i], asked(g)+1); ok {
			isWitness(t, "some tree", g, i, x...)
		}
	}
	s, _ := trees.Canon(treeByWords(g, 0, dead))
	s.Output = g.Output
	isSlim(t, "some tree", g, s)
	got, _ := Tree(g)
	if l, _ := Dead(got); len(l) > 0 {
		t.Errorf("P22.7: dead nodes %v of %v", l, got)
	}
	for i, n := range got.Nodes {
		if n.Kind != api.NodeLeaf && trees.Alike(subtree(got, n.Left), subtree(got, n.Right)) {
			t.Errorf("P22.7: the sides of node %d are alike: %v", i, got)
		}
	}
	if len(got.Nodes) > len(g.Nodes) {
		t.Errorf("P22.7: more leaves than before: %v of %v", got, g)
	}
	if t.Failed() {
		t.Fatal(g)
	}
}

// subtree is what stands from a node on, numbered by itself.
func subtree(g api.Tree, i int) api.Tree {
	n := g.Nodes[i]
	if n.Kind == api.NodeLeaf {
		return leaf(n.Value)
	}
	return fork(n, subtree(g, n.Left), subtree(g, n.Right))
}

func TestSomeTrees(t *testing.T) {
	r := source()
	went := 0
	for range 3000 {
		g := someTree(r, r.IntN(14), 1+r.IntN(3))
		isTree(t, g)
		if s, _ := Tree(g); len(s.Nodes) < len(g.Nodes) && len(s.Nodes) > 1 {
			went++
		}
	}
	if went < 1000 {
		t.Error("few of these trees are slimmed in part:", went)
	}
}

// That numbers of two features have nothing to do with one another is not taken for granted.
func TestAllVectors(t *testing.T) {
	r := source()
	for range 300 {
		g := someTree(r, r.IntN(8), 2)
		want := deadByVectors(t, g)
		if !slices.Equal(want, deadByWords(g)) {
			t.Fatalf("the words' dead nodes %v, not %v", deadByWords(g), want)
		}
		var l []int
		for i, no := range want {
			if no {
				l = append(l, i)
			}
		}
		isDead(t, "all vectors", g, l...)
	}
}

// All trees of two nodes that ask for one feature, over a few thresholds and categories.
func TestAllPairs(t *testing.T) {
	var all []api.Node
	for _, missing := range []api.Side{left, right} {
		for _, v := range []float64{-endless, -1, prev(0), minus0, 0, next(0), prev(2), 2, next(2), 5, endless} {
			all = append(all, numberOf(0, v, missing, 0, 0))
		}
		for _, cats := range [][]int{{0}, {2}, {0, 2}, {5}, {2, 5, 1023}} {
			all = append(all, catsOf(0, missing, 0, 0, cats...))
		}
	}
	for _, a := range all {
		for _, b := range all {
			isTree(t, fork(a, fork(b, leaf(1), leaf(2)), fork(b, leaf(3), leaf(4))))
			isTree(t, fork(a, leaf(1), fork(b, leaf(2), leaf(1))))
		}
	}
}

// someVector has numbers that matter to one of the trees, or any.
func someVector(r *rand.Rand, e api.Ensemble) []float64 {
	x := make([]float64, len(e.Features))
	for i := range x {
		x[i] = []float64{nan, endless, -endless, 0, minus0, math.Float64frombits(r.Uint64())}[r.IntN(6)]
		if len(e.Trees) > 0 && r.IntN(3) > 0 {
			l := numbersOf(e.Trees[r.IntN(len(e.Trees))], i)
			x[i] = l[r.IntN(len(l))]
		}
	}
	return x
}

func TestSomeEnsembles(t *testing.T) {
	r := source()
	for range 1000 {
		e := someEnsemble(r, r.IntN(6), 1+r.IntN(3))
		want := slimByWords(e)
		nodes := 0
		for _, g := range e.Trees {
			nodes += len(g.Nodes)
		}
		for _, g := range want.Trees {
			nodes -= len(g.Nodes)
		}
		isSlimmed(t, "some ensemble", e, want, nodes, len(e.Trees)-len(want.Trees))
		s, _ := Slim(e)
		if s.Name != e.Name || !slices.Equal(s.Features, e.Features) || s.Outputs != e.Outputs || !rules.Valid(s) {
			t.Fatalf("P22.6: %v of %v", s, e)
		}
		for range 40 {
			x := someVector(r, e)
			a, _ := trees.Score(e, x)
			if b, why := trees.Score(s, x); why != api.OK || !slices.Equal(a, b) {
				t.Fatalf("P22.6: %v says %v of %v, not %v as %v", s, b, x, a, e)
			}
		}
	}
}

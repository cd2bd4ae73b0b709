package rules

import (
	"math/big"
	"math/rand/v2"
	"regexp"
	"slices"
	"testing"

	"thicket/api"
	"thicket/trees"
)

var oneName = regexp.MustCompile(`\A[A-Za-z0-9_.-]{1,64}\z`)

// brokenByWords are all the rules that an ensemble breaks, each asked by itself, in no order.
func brokenByWords(e api.Ensemble) []api.Broken {
	var l []api.Broken
	ask := func(holds bool, rule api.Rule, tree, node int) {
		if !holds {
			l = append(l, at(rule, tree, node))
		}
	}
	ask(len(e.Base) == e.Outputs, 6, -1, -1)
	ask(e.Outputs > 0 && e.Outputs < 65, 5, -1, -1)
	ask(len(e.Trees) < 65537, 7, -1, -1)
	ask(oneName.MatchString(e.Name), 1, -1, -1)
	ask(len(e.Features) > 0 && len(e.Features) < 65537, 2, -1, -1)
	for i, s := range e.Features {
		ask(oneName.MatchString(s), 3, -1, i)
		ask(slices.Index(e.Features, s) == i, 4, -1, i)
	}
	for output := range e.Base {
		ask(roomByWords(e, output).Cmp(new(big.Int).Lsh(big.NewInt(1), 62)) < 0, 31, -1, output)
	}
	if len(e.Trees) < 65537 {
		for i, t := range e.Trees {
			l = append(l, brokenOfTree(e, t, i)...)
		}
	}
	return l
}

func brokenOfTree(e api.Ensemble, t api.Tree, number int) []api.Broken {
	var l []api.Broken
	if t.Output < 0 || t.Output >= e.Outputs {
		l = append(l, at(11, number, -1))
	}
	if len(t.Nodes) == 0 || len(t.Nodes) > 8191 {
		return append(l, at(12, number, -1))
	}
	for i, n := range t.Nodes {
		for _, rule := range brokenOfNode(n, len(e.Features), len(t.Nodes)) {
			l = append(l, at(rule, number, i))
		}
	}
	if len(l) == 0 {
		for _, i := range outOfPlace(t.Nodes) {
			l = append(l, at(20, number, i))
		}
	}
	return l
}

// brokenOfNode holds a node against one that has the fields of its kind alone.
func brokenOfNode(n api.Node, features, nodes int) []api.Rule {
	var l []api.Rule
	ask := func(holds bool, rule api.Rule) {
		if !holds {
			l = append(l, rule)
		}
	}
	var bare api.Node
	switch n.Kind {
	case api.NodeLeaf:
		bare = leafOf(n.Value)
	case api.NodeNumber:
		bare = api.Node{Kind: n.Kind, Feature: n.Feature, Threshold: n.Threshold, Missing: n.Missing, Left: n.Left, Right: n.Right}
		ask(n.Threshold == n.Threshold, 16)
	case api.NodeCats:
		bare = api.Node{Kind: n.Kind, Feature: n.Feature, Cats: n.Cats, Missing: n.Missing, Left: n.Left, Right: n.Right}
		ask(len(n.Cats) > 0 && slices.IsSorted(n.Cats) && len(slices.Compact(slices.Clone(n.Cats))) == len(n.Cats) && slices.Min(n.Cats) >= 0 && slices.Max(n.Cats) < 1024, 17)
	default:
		return []api.Rule{13}
	}
	ask(trees.Alike(treeOf(n), treeOf(bare)), 14)
	if n.Kind != api.NodeLeaf {
		ask(n.Feature >= 0 && n.Feature < features, 15)
		ask(n.Missing == 1 || n.Missing == 2, 18)
		ask(min(n.Left, n.Right) > 0 && max(n.Left, n.Right) < nodes, 19)
	}
	return l
}

// outOfPlace are the nodes that break rule 20, where each node is right in itself: below how many it is, and how far node 0 reaches, step by step.
func outOfPlace(nodes []api.Node) []int {
	above := make(map[int]int)
	comes := map[int]bool{0: true}
	for _, n := range nodes {
		above[n.Left]++
		above[n.Right]++
	}
	for more := true; more; {
		more = false
		for i, n := range nodes {
			for _, k := range []int{n.Left, n.Right} {
				if comes[i] && !comes[k] {
					comes[k], more = true, true
				}
			}
		}
	}
	var l []int
	for i := 1; i < len(nodes); i++ {
		if above[i] != 1 || !comes[i] {
			l = append(l, i)
		}
	}
	return l
}

// byWords is the first of them in the order of the chapter.
func byWords(e api.Ensemble) api.Broken {
	l := brokenByWords(e)
	if len(l) == 0 {
		return api.Broken{}
	}
	return slices.MinFunc(l, func(a, b api.Broken) int { return slices.Compare(orderOf(a), orderOf(b)) })
}

// orderOf is a broken rule's place in the order.
func orderOf(b api.Broken) []int {
	switch r := int(b.Rule); {
	case r <= 2:
		return []int{0, r}
	case r <= 4:
		return []int{1, b.Node, r}
	case r <= 7:
		return []int{2, r}
	case r <= 12:
		return []int{3, b.Tree, 0, r}
	case r <= 19:
		return []int{3, b.Tree, 1, b.Node, r}
	case r == 20:
		return []int{3, b.Tree, 2, b.Node}
	}
	return []int{4, b.Node}
}

// someForest is a right ensemble; its leaves are of all sizes.
func someForest(r *rand.Rand) api.Ensemble {
	e := api.Ensemble{Name: "some", Features: names(1 + r.IntN(5)), Outputs: 1 + r.IntN(4)}
	value := func() int64 { return (r.Int64() - 1<<62) >> (8 + r.IntN(50)) }
	for range e.Outputs {
		e.Base = append(e.Base, value())
	}
	for range r.IntN(6) {
		t := api.Tree{Output: r.IntN(e.Outputs), Nodes: []api.Node{leafOf(value())}}
		for range r.IntN(6) { // a leaf becomes a node over two
			at := r.IntN(len(t.Nodes))
			if t.Nodes[at].Kind != api.NodeLeaf {
				continue
			}
			n := numberOf(len(t.Nodes), len(t.Nodes)+1)
			n.Feature, n.Missing = r.IntN(len(e.Features)), []api.Side{left, right}[r.IntN(2)]
			if n.Threshold = []float64{0, minus0, 0.5, endless, -3}[r.IntN(5)]; r.IntN(3) == 0 {
				n.Kind, n.Threshold, n.Cats = api.NodeCats, 0, []int{r.IntN(3), 3, 1023}
			}
			if r.IntN(2) == 0 {
				n.Left, n.Right = n.Right, n.Left
			}
			t.Nodes = append(t.Nodes, leafOf(value()), leafOf(value()))
			t.Nodes[at] = n
		}
		e.Trees = append(e.Trees, t)
	}
	return e
}

func someVector(r *rand.Rand, many int) []float64 {
	x := make([]float64, many)
	for i := range x {
		x[i] = []float64{0, minus0, 0.5, 1, 2, 3, 2.5, -3, 1023, nan, endless, -endless}[r.IntN(12)]
	}
	return x
}

// spoil changes something at random, to what may be right or not.
func spoil(r *rand.Rand, e *api.Ensemble) {
	few := []int{-1, 0, 1, 2, 3, 4, 5, 1023, 1024}
	number := few[r.IntN(len(few))]
	if r.IntN(6) == 0 || len(e.Trees) == 0 {
		switch r.IntN(5) {
		case 0:
			e.Outputs = number
		case 1:
			set(e.Features, r.IntN(len(e.Features)+1), []string{"", "f0", "f1", "x y", "z"}[r.IntN(5)])
		case 2:
			set(e.Base, r.IntN(len(e.Base)+1), int64(number)<<61)
		case 3:
			e.Base = append(e.Base, 0)
		case 4:
			e.Features = e.Features[:r.IntN(len(e.Features)+1)]
		}
		return
	}
	t := &e.Trees[r.IntN(len(e.Trees))]
	if len(t.Nodes) == 0 || r.IntN(8) == 0 {
		switch r.IntN(3) {
		case 0:
			t.Output = number
		case 1:
			t.Nodes = t.Nodes[:r.IntN(len(t.Nodes)+1)]
		case 2:
			t.Nodes = append(t.Nodes, leafOf(1))
		}
		return
	}
	spoilNode(r, &t.Nodes[r.IntN(len(t.Nodes))], number)
}

func spoilNode(r *rand.Rand, n *api.Node, number int) {
	switch r.IntN(8) {
	case 0:
		n.Kind = api.NodeKind(r.IntN(5))
	case 1:
		n.Value = int64(number) << 61
	case 2:
		n.Feature = number
	case 3:
		n.Threshold = []float64{0, minus0, nan, 1, endless}[r.IntN(5)]
	case 4:
		n.Cats = [][]int{nil, {}, {number}, {0, number}, {1, 3, 2}}[r.IntN(5)]
	case 5:
		n.Missing = api.Side(r.IntN(4))
	case 6:
		n.Left = number
	case 7:
		n.Right = number
	}
}

func TestCheckOfAnyEnsembles(t *testing.T) {
	r := source()
	told := make(map[api.Rule]int)
	for range 60000 {
		e := someForest(r)
		for range r.IntN(4) {
			spoil(r, &e)
		}
		b := Check(e)
		if want := byWords(e); b != want || Valid(e) != (want.Rule == 0) {
			t.Fatalf("P8.1: %v: %v, not %v", e, b, want)
		}
		told[b.Rule]++
	}
	for _, rule := range []api.Rule{0, 2, 3, 4, 5, 6, 11, 12, 13, 14, 15, 16, 17, 18, 19, 20, 31} {
		if told[rule] < 20 {
			t.Errorf("P8.1: rule %d was told %d times: no test", rule, told[rule])
		}
	}
}

// Right ensembles have a score at each vector, and no sum on the way to it wraps.
func TestScoresOfRightEnsembles(t *testing.T) {
	r := source()
	most := new(big.Int).Lsh(big.NewInt(1), 62)
	for range 500 {
		e := someForest(r)
		atTheLimit(&e, r.IntN(e.Outputs))
		if b := Check(e); b != (api.Broken{}) {
			t.Fatal("P8.7: a room of MaxSum - 1:", b)
		}
		for range 10 {
			x := someVector(r, len(e.Features))
			s, why := trees.Score(e, x)
			if why != api.OK {
				t.Fatalf("P8.5: Score of %v at %v: %d", e, x, why)
			}
			sums := make([]*big.Int, e.Outputs)
			for output, v := range e.Base {
				sums[output] = big.NewInt(v)
			}
			for _, g := range e.Trees {
				if why, _ := trees.Shape(g); why != api.OK {
					t.Fatal("P8.5: Shape:", why)
				}
				_, v, _ := trees.Leaf(g, x)
				if sum := sums[g.Output]; sum.Add(sum, big.NewInt(v)).CmpAbs(most) >= 0 {
					t.Fatal("P8.6: a sum of", sum)
				}
			}
			for output, sum := range sums {
				if !sum.IsInt64() || sum.Int64() != s[output] {
					t.Fatal("P8.6:", sum, "and", s[output])
				}
			}
		}
	}
}

// atTheLimit makes an output's room MaxSum - 1.
func atTheLimit(e *api.Ensemble, output int) {
	e.Base[output] = 0
	rest := new(big.Int).Sub(big.NewInt(api.MaxSum-1), roomByWords(*e, output))
	e.Base[output] = -rest.Int64()
}

// What a right ensemble turns to is right too.
func TestRightStaysRight(t *testing.T) {
	r := source()
	for range 500 {
		e := someForest(r)
		atTheLimit(&e, r.IntN(e.Outputs))
		r.Shuffle(len(e.Trees), func(i, j int) { e.Trees[i], e.Trees[j] = e.Trees[j], e.Trees[i] })
		if b := Check(e); b.Rule != 0 {
			t.Fatal("P8.8: in another order:", b)
		}
		m, why := trees.Model(e)
		if b := Check(m); why != api.OK || b.Rule != 0 {
			t.Fatal("P8.8: numbered anew:", b)
		}
		for i := range e.Features {
			e.Features[i] = "other-" + e.Features[i]
		}
		if b := Check(e); b.Rule != 0 {
			t.Fatal("P8.8: with other names:", b)
		}
		e.Trees = slices.DeleteFunc(e.Trees, func(api.Tree) bool { return r.IntN(2) == 0 })
		if b := Check(e); b.Rule != 0 {
			t.Fatal("P8.8: without some trees:", b)
		}
	}
}

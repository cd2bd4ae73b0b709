package rules

import (
	"math"
	"math/big"
	"math/rand/v2"
	"reflect"
	"slices"
	"strconv"
	"strings"
	"testing"
	"unsafe"

	"thicket/api"
	"thicket/limbs"
	"thicket/trees"
)

const (
	left  = api.SideLeft
	right = api.SideRight
)

var (
	nan     = math.NaN()
	endless = math.Inf(1)
	minus0  = math.Copysign(0, -1)
)

func source() *rand.Rand { return rand.New(rand.NewPCG(8, 8)) }

func leafOf(v int64) api.Node { return api.Node{Kind: api.NodeLeaf, Value: v} }

func numberOf(l, r int) api.Node {
	return api.Node{Kind: api.NodeNumber, Missing: left, Left: l, Right: r}
}

func treeOf(l ...api.Node) api.Tree { return api.Tree{Nodes: l} }

func at(rule api.Rule, tree, node int) api.Broken {
	return api.Broken{Rule: rule, Tree: tree, Node: node}
}

// model is the chapter's M.
func model() api.Ensemble {
	return api.Ensemble{Name: "m", Features: []string{"a"}, Outputs: 1, Base: []int64{0}, Trees: []api.Tree{treeOf(leafOf(5))}}
}

// names are so many names of features.
func names(many int) []string {
	l := make([]string, many)
	for i := range l {
		l[i] = "f" + strconv.Itoa(i)
	}
	return l
}

// full is a tree of so many leaves, each of the value.
func full(leaves int, value int64) api.Tree {
	var t api.Tree
	for i := range leaves - 1 {
		t.Nodes = append(t.Nodes, numberOf(2*i+1, 2*i+2), leafOf(value))
	}
	t.Nodes = append(t.Nodes, leafOf(value))
	return t
}

func checked(t *testing.T, what string, e api.Ensemble, want api.Broken) {
	t.Helper()
	if b := Check(e); b != want || Valid(e) != (want.Rule == api.RuleNone) {
		t.Errorf("P8.1: %s: %v, %v, not %v", what, b, Valid(e), want)
	}
}

func TestExamplesOfCheck(t *testing.T) {
	split := func(change func(n *api.Node)) func(e *api.Ensemble) {
		return func(e *api.Ensemble) {
			n := numberOf(1, 2)
			change(&n)
			e.Trees[0] = treeOf(n, leafOf(0), leafOf(0))
		}
	}
	for i, c := range []struct {
		change func(e *api.Ensemble)
		want   api.Broken
	}{
		{func(e *api.Ensemble) {}, at(0, 0, 0)},
		{func(e *api.Ensemble) { e.Name = "" }, at(1, -1, -1)},
		{func(e *api.Ensemble) { e.Features = nil }, at(2, -1, -1)},
		{func(e *api.Ensemble) { e.Features = []string{"a", "a"} }, at(4, -1, 1)},
		{func(e *api.Ensemble) { e.Features = []string{"a", "b c"} }, at(3, -1, 1)},
		{func(e *api.Ensemble) { e.Outputs = 0 }, at(5, -1, -1)},
		{func(e *api.Ensemble) { e.Base = []int64{0, 0} }, at(6, -1, -1)},
		{func(e *api.Ensemble) { e.Trees[0].Output = 1 }, at(11, 0, -1)},
		{func(e *api.Ensemble) { e.Trees[0].Nodes = nil }, at(12, 0, -1)},
		{func(e *api.Ensemble) { e.Trees[0].Nodes[0].Feature = 1 }, at(14, 0, 0)},
		{func(e *api.Ensemble) { e.Trees[0].Nodes[0].Kind = 0 }, at(13, 0, 0)},
		{split(func(n *api.Node) { n.Feature = 1 }), at(15, 0, 0)},
		{split(func(n *api.Node) {}), at(0, 0, 0)},
		{split(func(n *api.Node) { n.Right = 1 }), at(20, 0, 1)},
		{split(func(n *api.Node) { n.Right = 3 }), at(19, 0, 0)},
		{split(func(n *api.Node) { n.Missing = 0 }), at(18, 0, 0)},
		{split(func(n *api.Node) { n.Missing, n.Threshold = 0, nan }), at(16, 0, 0)},
		{func(e *api.Ensemble) { e.Base[0] = 1 << 62 }, at(31, -1, 0)},
		{func(e *api.Ensemble) { e.Base[0] = 1<<62 - 6 }, at(0, 0, 0)},
		{func(e *api.Ensemble) { e.Base[0] = 1<<62 - 5 }, at(31, -1, 0)},
		{func(e *api.Ensemble) { e.Trees = nil }, at(0, 0, 0)},
	} {
		e := model()
		c.change(&e)
		checked(t, "example "+strconv.Itoa(i), e, c.want)
	}
	checked(t, "nothing", api.Ensemble{}, at(1, -1, -1))
}

// forest breaks no rule: three features, two outputs, three trees, of which the second has a node of each kind.
func forest() api.Ensemble {
	cats := api.Node{Kind: api.NodeCats, Feature: 2, Cats: []int{0, 5, 1023}, Missing: right, Left: 3, Right: 4}
	number := api.Node{Kind: api.NodeNumber, Feature: 1, Threshold: minus0, Missing: left, Left: 2, Right: 1}
	return api.Ensemble{Name: "f", Features: []string{"a", "b", "c"}, Outputs: 2, Base: []int64{1, -2}, Trees: []api.Tree{
		treeOf(leafOf(5)), {Output: 1, Nodes: []api.Node{number, leafOf(-7), cats, leafOf(3), leafOf(4)}}, treeOf(leafOf(math.MinInt64 >> 2)),
	}}
}

// change is a change that breaks a rule of forest, and where.
type change struct {
	want api.Broken
	do   func(e *api.Ensemble)
}

// changes are some for each rule, in the order of the rules.
func changes() []change {
	l := []change{
		{at(1, -1, -1), func(e *api.Ensemble) { e.Name = "" }},
		{at(2, -1, -1), func(e *api.Ensemble) { e.Features = nil }},
		{at(3, -1, 0), func(e *api.Ensemble) { set(e.Features, 0, "") }},
		{at(3, -1, 1), func(e *api.Ensemble) { set(e.Features, 1, "\xc3\xa9") }},
		{at(4, -1, 1), func(e *api.Ensemble) { set(e.Features, 1, "a") }},
		{at(3, -1, 2), func(e *api.Ensemble) { set(e.Features, 2, "b ") }},
		{at(4, -1, 2), func(e *api.Ensemble) { set(e.Features, 2, "a") }},
		{at(4, -1, 2), func(e *api.Ensemble) { set(e.Features, 2, "b") }},
		{at(5, -1, -1), func(e *api.Ensemble) { e.Outputs = 0 }},
		{at(5, -1, -1), func(e *api.Ensemble) { e.Outputs = -1 }},
		{at(5, -1, -1), func(e *api.Ensemble) { e.Outputs = math.MinInt }},
		{at(5, -1, -1), func(e *api.Ensemble) { e.Outputs, e.Base = 65, make([]int64, 65) }},
		{at(6, -1, -1), func(e *api.Ensemble) { e.Base = append(slices.Clone(e.Base), 3) }},
		{at(7, -1, -1), func(e *api.Ensemble) { e.Trees = append(make([]api.Tree, api.MaxTrees-2), e.Trees...) }},
	}
	for tree := range 3 {
		l = append(l, changesOfTree(tree)...)
	}
	for output := range 2 {
		l = append(l, change{at(31, -1, output), func(e *api.Ensemble) { set(e.Base, output, 1<<62) }}, change{at(31, -1, output), func(e *api.Ensemble) { set(e.Base, output, math.MinInt64) }})
	}
	return l
}

// set does nothing where an earlier change took the place away.
func set[T any](l []T, i int, v T) {
	if i < len(l) {
		l[i] = v
	}
}

func changesOfTree(tree int) []change {
	var l []change
	of := func(rule api.Rule, node int, do func(t *api.Tree)) {
		l = append(l, change{at(rule, tree, node), func(e *api.Ensemble) {
			if tree < len(e.Trees) {
				do(&e.Trees[tree])
			}
		}})
	}
	of(11, -1, func(t *api.Tree) { t.Output = -1 })
	of(11, -1, func(t *api.Tree) { t.Output = 2 })
	of(11, -1, func(t *api.Tree) { t.Output = math.MaxInt })
	of(12, -1, func(t *api.Tree) { t.Nodes = nil })
	of(12, -1, func(t *api.Tree) { t.Nodes = append(full(api.MaxLeaves, 1).Nodes, leafOf(0)) })
	nodes := []api.NodeKind{api.NodeLeaf}
	if tree == 1 {
		nodes = []api.NodeKind{api.NodeNumber, api.NodeLeaf, api.NodeCats, api.NodeLeaf, api.NodeLeaf}
	}
	for i, kind := range nodes {
		for _, b := range bends(kind, len(nodes)) {
			of(b.rule, i, func(t *api.Tree) {
				if i < len(t.Nodes) {
					b.do(&t.Nodes[i])
				}
			})
		}
	}
	of(20, len(nodes), func(t *api.Tree) { t.Nodes = append(slices.Clone(t.Nodes), leafOf(1)) })
	return l
}

// bend is a change of a node that breaks a rule.
type bend struct {
	rule api.Rule
	do   func(n *api.Node)
}

// bends are those of a node of a kind in a tree of so many nodes, in the order of their rules.
func bends(kind api.NodeKind, nodes int) []bend {
	l := []bend{{13, func(n *api.Node) { n.Kind = 0 }}, {13, func(n *api.Node) { n.Kind = api.NodeCount }}, {13, func(n *api.Node) { n.Kind = 255 }}}
	if kind == api.NodeLeaf {
		return append(l, bend{14, func(n *api.Node) { n.Feature = 1 }}, bend{14, func(n *api.Node) { n.Threshold = minus0 }}, bend{14, func(n *api.Node) { n.Threshold = nan }},
			bend{14, func(n *api.Node) { n.Cats = []int{0} }}, bend{14, func(n *api.Node) { n.Missing = left }}, bend{14, func(n *api.Node) { n.Left = 1 }}, bend{14, func(n *api.Node) { n.Right = -1 }})
	}
	l = append(l, bend{14, func(n *api.Node) { n.Value = 1 }})
	if kind == api.NodeNumber {
		l = append(l, bend{14, func(n *api.Node) { n.Cats = []int{0} }})
	} else {
		l = append(l, bend{14, func(n *api.Node) { n.Threshold = minus0 }}, bend{14, func(n *api.Node) { n.Threshold = 1 }}, bend{14, func(n *api.Node) { n.Threshold = nan }})
	}
	for _, f := range []int{-1, 3, math.MinInt, math.MaxInt} {
		l = append(l, bend{15, func(n *api.Node) { n.Feature = f }})
	}
	if kind == api.NodeNumber {
		l = append(l, bend{16, func(n *api.Node) { n.Threshold = nan }}, bend{16, func(n *api.Node) { n.Threshold = math.Float64frombits(0xfff0000000000001) }})
	} else {
		for _, cats := range [][]int{nil, {}, {-1}, {1024}, {1, 1}, {3, 1}, {0, 1023, 1024}, {0, 2, 1}, {math.MinInt}, {math.MaxInt}} {
			l = append(l, bend{17, func(n *api.Node) { n.Cats = cats }})
		}
	}
	l = append(l, bend{18, func(n *api.Node) { n.Missing = 0 }}, bend{18, func(n *api.Node) { n.Missing = 3 }}, bend{18, func(n *api.Node) { n.Missing = 255 }})
	for _, i := range []int{0, -1, nodes, math.MaxInt} {
		l = append(l, bend{19, func(n *api.Node) { n.Left = i }}, bend{19, func(n *api.Node) { n.Right = i }})
	}
	return l
}

func TestEachRule(t *testing.T) {
	checked(t, "a forest", forest(), at(0, 0, 0))
	for i, c := range changes() {
		e := forest()
		c.do(&e)
		checked(t, "change "+strconv.Itoa(i), e, c.want)
	}
}

// Of two rules that are broken at once the first of the order is told: of two places of one ensemble, of two fields of one node.
func TestTwoRulesAtOnce(t *testing.T) {
	all := changes()
	for i, first := range all {
		for j, second := range all[i+1:] {
			e := forest()
			second.do(&e)
			first.do(&e)
			want := first.want
			if want.Rule == api.RuleKids && second.want.Rule == api.RuleTree {
				want = byWords(e) // a node more, and the number may be one
			}
			if b := Check(e); b != want || byWords(e) != want {
				t.Fatalf("P8.1: changes %d and %d: %v, not %v", i, i+1+j, b, want)
			}
		}
	}
}

func TestNamesByRules(t *testing.T) {
	long := strings.Repeat("x", api.MaxName)
	for _, s := range []string{"a", "Z", "0", "-", "_", ".", "a-b_c.9", long} {
		e := model()
		e.Name = s
		checked(t, s, e, at(0, 0, 0))
		e.Features = []string{"first", s}
		checked(t, s, e, at(0, 0, 0))
	}
	for _, s := range []string{"", " ", "a b", "a\n", "\x00", "é", "a/b", "a:", long + "x"} {
		e := model()
		e.Name = s
		checked(t, s, e, at(1, -1, -1))
		e.Name, e.Features = "m", []string{"first", s, s}
		checked(t, s, e, at(3, -1, 1)) // a name that is none, ahead of one that stands twice
	}
	e := model()
	e.Features = []string{"a", "b", "A", "b", "a"}
	checked(t, "two names twice", e, at(4, -1, 3))
	e.Features = []string{"m", "a"} // the model's own name is none of the features'
	checked(t, "a feature called as the model", e, at(0, 0, 0))
}

func TestThresholdsByRules(t *testing.T) {
	for _, v := range []float64{0, minus0, endless, -endless, 5e-324, -math.MaxFloat64} {
		e := forest()
		e.Trees[1].Nodes[0].Threshold = v
		checked(t, strconv.FormatFloat(v, 'g', -1, 64), e, at(0, 0, 0))
	}
}

// Rule 20 is asked when all nodes are right in themselves, and tells the first node that stands wrong.
func TestRuleOfTrees(t *testing.T) {
	for _, c := range []struct {
		node  int
		nodes []api.Node
	}{
		{1, []api.Node{leafOf(0), leafOf(0)}},
		{1, []api.Node{numberOf(2, 3), leafOf(0), leafOf(0), leafOf(0)}},
		{1, []api.Node{numberOf(1, 1), leafOf(0)}},
		{2, []api.Node{numberOf(1, 2), numberOf(2, 3), leafOf(0), leafOf(0)}},
		{1, []api.Node{leafOf(0), numberOf(2, 3), numberOf(1, 4), leafOf(0), leafOf(0)}},
		{3, []api.Node{numberOf(1, 2), leafOf(0), leafOf(0), numberOf(3, 4), leafOf(0)}},
	} {
		e := model()
		e.Trees = []api.Tree{treeOf(leafOf(1)), treeOf(c.nodes...), treeOf(leafOf(1), leafOf(2))}
		checked(t, "no tree", e, at(20, 1, c.node))
		last := &c.nodes[len(c.nodes)-1]
		last.Missing = 9
		want := byWords(e)
		if checked(t, "nor a right node", e, want); want.Tree != 1 || want.Node != len(c.nodes)-1 || want.Rule == 20 {
			t.Error("P8.1:", want)
		}
	}
}

func TestLargest(t *testing.T) {
	for want, g := range map[uint64]api.Tree{
		0: {}, 5: treeOf(leafOf(5)), 6: treeOf(leafOf(5), leafOf(-6)), 7: treeOf(leafOf(7), leafOf(-6)), 1 << 63: treeOf(leafOf(math.MaxInt64), leafOf(math.MinInt64)), 1<<63 - 1: treeOf(leafOf(math.MaxInt64)),
		3: treeOf(api.Node{Kind: api.NodeNumber, Value: 9}, api.Node{Value: 10}, api.Node{Kind: api.NodeCats, Value: -11}, api.Node{Kind: api.NodeCount, Value: 12}, leafOf(-3)), // only leaves count
	} {
		if n := Largest(g); n != want {
			t.Errorf("P8.2: Largest of %v: %d, not %d", g, n, want)
		}
	}
	if Largest(treeOf(api.Node{Kind: api.NodeNumber, Value: 9})) != 0 || Largest(treeOf(leafOf(0))) != 0 {
		t.Error("P8.2: no leaf")
	}
}

// roomByWords adds up in big numbers.
func roomByWords(e api.Ensemble, output int) *big.Int {
	sum := new(big.Int).Abs(big.NewInt(e.Base[output]))
	for _, t := range e.Trees {
		if t.Output != output {
			continue
		}
		largest := new(big.Int)
		for _, n := range t.Nodes {
			if a := new(big.Int).Abs(big.NewInt(n.Value)); n.Kind == api.NodeLeaf && a.Cmp(largest) > 0 {
				largest = a
			}
		}
		sum.Add(sum, largest)
	}
	return sum
}

func TestRoom(t *testing.T) {
	if n, why := Room(model(), 0); why != api.OK || !slices.Equal(n, []uint32{5}) {
		t.Error("P8.2: Room of M:", n, why)
	}
	for _, output := range []int{1, -1, 2, math.MaxInt, math.MinInt} {
		if n, why := Room(model(), output); why != api.ErrRange || n != nil {
			t.Errorf("P8.2: Room of %d: %v, %d", output, n, why)
		}
	}
	if n, why := Room(api.Ensemble{Outputs: 3, Base: []int64{0}}, 0); why != api.OK || len(n) != 0 {
		t.Error("P8.2: nought:", n, why)
	}
	if _, why := Room(api.Ensemble{Outputs: 3, Base: []int64{0}}, 1); why != api.ErrRange { // as many as Base has, whatever Outputs says
		t.Error("P8.2: beyond Base:", why)
	}
	if _, why := Room(api.Ensemble{Outputs: 3}, 0); why != api.ErrRange {
		t.Error("P8.2: no Base:", why)
	}
	vast := api.Ensemble{Base: []int64{math.MinInt64, 7}}
	for range 5 {
		vast.Trees = append(vast.Trees, treeOf(leafOf(math.MinInt64)), api.Tree{Output: 1}, api.Tree{Output: 5, Nodes: []api.Node{leafOf(4)}})
	}
	if n, why := Room(vast, 0); why != api.OK || limbs.Print(n) != "55340232221128654848" { // 6 times 2^63
		t.Error("P8.2: beyond 2^64:", n, why)
	}
	if n, why := Room(vast, 1); why != api.OK || !slices.Equal(n, []uint32{7}) {
		t.Error("P8.2: the other one:", n, why)
	}
	r := source()
	for range 500 {
		e := someForest(r)
		for output := range e.Base {
			n, why := Room(e, output)
			if why != api.OK || limbs.Print(n) != roomByWords(e, output).String() || !slices.Equal(n, limbs.Norm(n)) {
				t.Fatalf("P8.2: Room of %v, %d: %v, %d", e, output, n, why)
			}
		}
	}
}

func TestSay(t *testing.T) {
	for want, l := range map[string][]api.Broken{
		"right":                               {at(0, 0, 0), at(0, -1, -1), at(0, 5, 7)},
		"rule 16 tree 0 node 3":               {at(16, 0, 3)},
		"rule 31 node 0":                      {at(31, -1, 0), at(31, math.MinInt, 0)},
		"rule 1":                              {at(1, -1, -1), at(1, -2, -9)},
		"rule 11 tree 65535":                  {at(11, 65535, -1)},
		"rule 999 tree 10 node 20":            {at(999, 10, 20)},
		"rule -1 tree 0 node 0":               {at(-1, 0, 0)},
		"rule -9223372036854775808":           {at(math.MinInt, -1, -1)},
		"rule 7 node 9223372036854775807":     {at(7, -1, math.MaxInt)},
		"rule 13 tree 9223372036854775807":    {at(13, math.MaxInt, -1)},
		"rule 9223372036854775807 tree 1000":  {at(math.MaxInt, 1000, math.MinInt)},
		"rule 20 tree 0 node 100000000000000": {at(20, 0, 100000000000000)},
	} {
		for _, b := range l {
			if s := Say(b); s != want {
				t.Errorf("P8.3: Say(%v) = %q, not %q", b, s, want)
			}
		}
	}
}

// At each limit an ensemble is right; one past it is not.
func TestLimits(t *testing.T) {
	e := model()
	e.Features = names(api.MaxFeatures)
	e.Trees[0] = treeOf(api.Node{Kind: api.NodeNumber, Feature: api.MaxFeatures - 1, Missing: right, Left: 1, Right: 2}, leafOf(0), leafOf(1))
	checked(t, "MaxFeatures", e, at(0, 0, 0))
	e.Trees[0].Nodes[0].Feature++
	checked(t, "a feature beyond", e, at(15, 0, 0))
	e.Features = names(api.MaxFeatures + 1)
	checked(t, "MaxFeatures + 1", e, at(2, -1, -1))

	e = model()
	e.Trees = slices.Repeat(e.Trees, api.MaxTrees)
	checked(t, "MaxTrees", e, at(0, 0, 0))
	e.Trees = append(e.Trees, e.Trees[0])
	checked(t, "MaxTrees + 1", e, at(7, -1, -1))

	e = model()
	e.Trees[0] = full(api.MaxLeaves, 3)
	checked(t, "MaxLeaves", e, at(0, 0, 0))
	e.Trees[0] = full(api.MaxLeaves+1, 3)
	checked(t, "MaxLeaves + 1", e, at(12, 0, -1))
	e.Trees[0].Nodes = e.Trees[0].Nodes[:2*api.MaxLeaves]
	checked(t, "2 MaxLeaves nodes", e, at(12, 0, -1))

	e = model()
	e.Outputs, e.Base, e.Trees[0].Output = api.MaxOutputs, make([]int64, api.MaxOutputs), api.MaxOutputs-1
	checked(t, "MaxOutputs", e, at(0, 0, 0))
	e.Trees[0].Output++
	checked(t, "an output beyond", e, at(11, 0, -1))
	e.Outputs, e.Base = api.MaxOutputs+1, make([]int64, api.MaxOutputs+1)
	checked(t, "MaxOutputs + 1", e, at(5, -1, -1))
}

// A room of MaxSum - 1 is right, one of MaxSum is not: from Base, from leaves, from both, of either sign, of whichever output.
func TestSumsAtTheLimit(t *testing.T) {
	const most = api.MaxSum - 1
	for _, c := range []struct {
		base   int64
		leaves []int64
	}{
		{most, nil}, {-most, nil}, {0, []int64{most}}, {0, []int64{-most}}, {most - 5, []int64{-5}}, {-(most - 5), []int64{5}}, {1, []int64{most >> 1, -(most >> 1)}}, {0, []int64{1 << 61, -(1<<61 - 1)}}, {-1, []int64{1 << 60, 1 << 60, 1 << 60, 1<<60 - 2}},
	} {
		for output := range 3 {
			e := model()
			e.Outputs, e.Base, e.Trees = 3, []int64{7, 8, 9}, nil
			e.Base[output] = c.base
			for _, v := range c.leaves {
				e.Trees = append(e.Trees, api.Tree{Output: output, Nodes: []api.Node{numberOf(1, 2), leafOf(v / 2), leafOf(v)}})
			}
			checked(t, "MaxSum - 1", e, at(0, 0, 0))
			e.Trees = append(e.Trees, api.Tree{Output: output, Nodes: []api.Node{leafOf(-1)}})
			checked(t, "MaxSum", e, at(31, -1, output))
			e.Trees[len(e.Trees)-1].Output = (output + 1) % 3
			checked(t, "one of another output", e, at(0, 0, 0))
		}
	}
	e := model()
	e.Base[0], e.Trees = math.MinInt64, nil
	checked(t, "-2^63", e, at(31, -1, 0))
	e.Base[0], e.Trees = 0, slices.Repeat([]api.Tree{treeOf(leafOf(math.MinInt64))}, 2) // 2^64: nought, if it wrapped
	checked(t, "2^64", e, at(31, -1, 0))
	e.Outputs, e.Base, e.Trees = 2, []int64{1 << 62, 1 << 62}, nil
	checked(t, "two outputs", e, at(31, -1, 0))
}

// roomOf is where a list's memory begins and ends, its spare room included.
func roomOf[T any](l []T) (uintptr, uintptr) {
	var one T
	from := uintptr(unsafe.Pointer(unsafe.SliceData(l)))
	return from, from + uintptr(cap(l))*unsafe.Sizeof(one)
}

func TestMemory(t *testing.T) {
	e := forest()
	e.Features = append(e.Features, "spare")[:3]
	e.Base = append(e.Base, 7)[:2]
	e.Trees = append(e.Trees, treeOf(leafOf(9)))[:3]
	e.Trees[1].Nodes = append(e.Trees[1].Nodes, leafOf(9))[:5]
	before := trees.Copy(e)
	Check(e)
	Valid(e)
	Largest(e.Trees[1])
	one, _ := Room(e, 1)
	other, _ := Room(e, 1)
	if !trees.Same(e, before) || e.Features[:4][3] != "spare" || e.Base[:3][2] != 7 || !reflect.DeepEqual(e.Trees[:4][3], treeOf(leafOf(9))) || !reflect.DeepEqual(e.Trees[1].Nodes[:6][5], leafOf(9)) {
		t.Error("P8.4: what is handed in was changed")
	}
	from, to := roomOf(one)
	if start, end := roomOf(other); start < to && from < end {
		t.Error("P8.4: two answers share memory")
	}
}

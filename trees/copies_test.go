package trees

import (
	"math"
	"reflect"
	"slices"
	"testing"

	"thicket/api"
)

// canonByWords puts the nodes below one behind it, by calls that nest.
func canonByWords(from []api.Node, i int, to []api.Node) []api.Node {
	n := from[i]
	at := len(to)
	to = append(to, n)
	if n.Kind != api.NodeLeaf {
		to[at].Left = len(to)
		to = canonByWords(from, n.Left, to)
		to[at].Right = len(to)
		to = canonByWords(from, n.Right, to)
	}
	return to
}

// plain has nil in the place of empty lists, so that reflect holds both alike.
func plain(t api.Tree) api.Tree {
	t.Nodes = slices.Clone(t.Nodes)
	for i := range t.Nodes {
		if len(t.Nodes[i].Cats) == 0 {
			t.Nodes[i].Cats = nil
		}
	}
	return t
}

func TestExampleOfCanon(t *testing.T) {
	g := grown()
	g.Output = -5
	c, why := Canon(g)
	want := treeOf(numberOf(1, 0.5, right, 1, 4), catsOf(0, left, 2, 3, 1, 3), leafOf(10), leafOf(20), leafOf(30))
	want.Output = -5
	if why != api.OK || !reflect.DeepEqual(plain(c), want) {
		t.Error("7.6:", c, why)
	}
	if c, why := Canon(treeOf(leafOf(3))); why != api.OK || !reflect.DeepEqual(plain(c), treeOf(leafOf(3))) {
		t.Error("7.6:", c, why)
	}
}

func TestCanonOfAnyTrees(t *testing.T) {
	for _, g := range someTrees(source(), 100) {
		g.Nodes[0].Value, g.Output = 0, g.Output-1
		if len(g.Nodes) > 1 {
			g.Nodes[0] = numberOf(3, minus0, right, g.Nodes[0].Left, g.Nodes[0].Right)
		}
		c, why := Canon(g)
		if want := canonByWords(g.Nodes, 0, nil); why != api.OK || c.Output != g.Output || !reflect.DeepEqual(plain(c).Nodes, want) {
			t.Fatalf("7.6: %v: %v, %d", g, c, why)
		}
		if len(g.Nodes) > 1 && !math.Signbit(c.Nodes[0].Threshold) {
			t.Fatal("7.6: -0 is not kept")
		}
		if again, why := Canon(c); why != api.OK || !Alike(again, c) {
			t.Fatalf("7.9: Canon of %v: %v, %d", c, again, why)
		}
	}
}

func TestModel(t *testing.T) {
	e := api.Ensemble{Name: "any name", Features: []string{"", "", "a b"}, Outputs: -7, Base: []int64{math.MinInt64, 4}, Trees: []api.Tree{grown(), treeOf(leafOf(1))}}
	e.Trees[1].Output = 400
	m, why := Model(e)
	first, _ := Canon(e.Trees[0])
	want := Copy(e)
	want.Trees[0] = first
	if why != api.OK || !Same(m, want) || Same(m, e) {
		t.Error("7.6:", m, why)
	}
	if m, why := Model(api.Ensemble{}); why != api.OK || !Same(m, api.Ensemble{}) {
		t.Error("7.6: of nothing:", m, why)
	}
	split, loose := grown(), treeOf(leafOf(1), leafOf(2))
	split.Nodes[0].Threshold = nan
	for want, l := range map[api.Errno][]api.Tree{api.ErrSplit: {grown(), split, loose}, api.ErrShape: {grown(), loose, split, {}}} {
		e.Trees = l
		if m, why := Model(e); why != want || !reflect.DeepEqual(m, api.Ensemble{}) {
			t.Errorf("7.6: %v, %d, not %d", m, why, want)
		}
	}
}

// turns are ways to change a field of the second tree of an ensemble.
func turns() map[string]func(t *api.Tree) {
	return map[string]func(t *api.Tree){
		"Output": func(t *api.Tree) { t.Output++ }, "Kind": func(t *api.Tree) { t.Nodes[0].Kind = api.NodeCats }, "Value": func(t *api.Tree) { t.Nodes[4].Value-- },
		"Feature": func(t *api.Tree) { t.Nodes[0].Feature++ }, "Threshold": func(t *api.Tree) { t.Nodes[0].Threshold = math.Nextafter(0.5, 1) }, "nought": func(t *api.Tree) { t.Nodes[2].Threshold = minus0 },
		"Cats": func(t *api.Tree) { t.Nodes[2].Cats = []int{1, 4} }, "fewer Cats": func(t *api.Tree) { t.Nodes[2].Cats = []int{1} }, "no Cats": func(t *api.Tree) { t.Nodes[2].Cats = nil },
		"more Cats": func(t *api.Tree) { t.Nodes[2].Cats = []int{1, 3, 4} }, "other Cats": func(t *api.Tree) { t.Nodes[2].Cats = []int{3, 1} }, "Missing": func(t *api.Tree) { t.Nodes[0].Missing = left },
		"Left": func(t *api.Tree) { t.Nodes[0].Left = 3 }, "Right": func(t *api.Tree) { t.Nodes[0].Right = 4 }, "fewer": func(t *api.Tree) { t.Nodes = t.Nodes[:4] }, "none": func(t *api.Tree) { t.Nodes = nil },
		"more": func(t *api.Tree) { t.Nodes = append(t.Nodes, api.Node{}) }, "order": func(t *api.Tree) { t.Nodes[3], t.Nodes[4] = t.Nodes[4], t.Nodes[3] },
	}
}

func pair() api.Ensemble {
	return api.Ensemble{Name: "m", Features: []string{"a", "b"}, Outputs: 2, Base: []int64{1, 2}, Trees: []api.Tree{treeOf(leafOf(4)), grown()}}
}

func TestAlike(t *testing.T) {
	if !Alike(grown(), grown()) || !Same(pair(), pair()) || !Alike(api.Tree{}, api.Tree{}) || !Same(api.Ensemble{}, api.Ensemble{}) {
		t.Error("7.7: the same is not alike")
	}
	for what, turn := range turns() {
		g, e := grown(), pair()
		turn(&g)
		turn(&e.Trees[1])
		if Alike(g, grown()) || Alike(grown(), g) || !Alike(g, g) {
			t.Error("7.7: Alike:", what)
		}
		if Same(e, pair()) || Same(pair(), e) || !Same(e, e) {
			t.Error("7.7: Same:", what)
		}
	}
	c, _ := Canon(grown())
	if Alike(c, grown()) { // node by node, as they are numbered
		t.Error("7.7: Alike of Canon")
	}
}

// Thresholds are held against each other by their bits, a NaN's too.
func TestAlikeByBits(t *testing.T) {
	thresholds := []float64{0, minus0, nan, math.Float64frombits(0x7ff8000000000002), math.Float64frombits(0xfff8000000000001), math.Float64frombits(0x7ff0000000000001), 1, endless}
	for i, a := range thresholds {
		for j, b := range thresholds {
			one, other := treeOf(api.Node{Threshold: a}), treeOf(api.Node{Threshold: b})
			if Alike(one, other) != (i == j) || Same(api.Ensemble{Trees: []api.Tree{one}}, api.Ensemble{Trees: []api.Tree{other}}) != (i == j) {
				t.Errorf("7.7: %v and %v", a, b)
			}
		}
	}
}

func TestSame(t *testing.T) {
	for what, turn := range map[string]func(e *api.Ensemble){
		"Name": func(e *api.Ensemble) { e.Name = "n" }, "Features": func(e *api.Ensemble) { e.Features[1] = "c" }, "fewer Features": func(e *api.Ensemble) { e.Features = e.Features[:1] },
		"Features' order": func(e *api.Ensemble) { e.Features = []string{"b", "a"} }, "Outputs": func(e *api.Ensemble) { e.Outputs = 3 }, "Base": func(e *api.Ensemble) { e.Base[1] = 3 },
		"more Base": func(e *api.Ensemble) { e.Base = append(e.Base, 0) }, "trees": func(e *api.Ensemble) { e.Trees = e.Trees[:1] }, "trees' order": func(e *api.Ensemble) { slices.Reverse(e.Trees) },
		"no trees": func(e *api.Ensemble) { e.Trees = nil }, "no Features": func(e *api.Ensemble) { e.Features = nil }, "no Base": func(e *api.Ensemble) { e.Base = nil },
	} {
		e := pair()
		turn(&e)
		if Same(e, pair()) || Same(pair(), e) || !Same(e, e) {
			t.Error("7.7:", what)
		}
	}
	empty := api.Ensemble{Features: []string{}, Base: []int64{}, Trees: []api.Tree{{Nodes: []api.Node{}}, treeOf(api.Node{Cats: []int{}})}}
	if !Same(empty, api.Ensemble{Trees: []api.Tree{{}, treeOf(api.Node{})}}) || !Same(api.Ensemble{Trees: []api.Tree{}}, api.Ensemble{}) {
		t.Error("7.7: nil and empty lists are alike")
	}
}

// Any ensemble is copied, right or not.
func TestCopy(t *testing.T) {
	odd := api.Ensemble{Name: "\xff", Features: []string{"", "x"}, Outputs: math.MinInt, Base: []int64{1}, Trees: []api.Tree{{}, {Output: -1, Nodes: []api.Node{
		{Kind: 200, Value: 1, Feature: -1, Threshold: math.Float64frombits(0x7ff0000000000001), Cats: []int{5, 5, -5}, Missing: 9, Left: -1, Right: 1 << 40}, {},
	}}}}
	r := source()
	for _, e := range []api.Ensemble{{}, odd, pair(), someEnsemble(r, 5), roomy(odd), roomy(pair()), roomy(api.Ensemble{})} {
		c := Copy(e)
		if !Same(c, e) {
			t.Errorf("7.7: %v, not %v", c, e)
		}
		if !apart(append(roomsOf(e), roomsOf(c)...)...) {
			t.Errorf("7.8: %v shares memory", c)
		}
	}
	e := pair()
	c := Copy(e)
	e.Features[0], e.Base[0], e.Trees[0].Nodes[0].Value, e.Trees[1].Nodes[2].Cats[0], e.Trees[0].Output = "z", 9, 9, 0, 1
	if !Same(c, pair()) {
		t.Error("7.8: a change is seen in the copy")
	}
}

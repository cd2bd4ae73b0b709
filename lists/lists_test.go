package lists

import (
	"math"
	"math/rand/v2"
	"reflect"
	"slices"
	"testing"

	"thicket/api"
)

const (
	left  = api.SideLeft
	right = api.SideRight
)

var (
	nan     = math.NaN()
	endless = math.Inf(1)
	minus0  = math.Copysign(0, -1)
)

func source() *rand.Rand { return rand.New(rand.NewPCG(14, 14)) }

func leafOf(v int64) api.Node { return api.Node{Kind: api.NodeLeaf, Value: v} }

func numberOf(feature int, threshold float64, missing api.Side, l, r int) api.Node {
	return api.Node{Kind: api.NodeNumber, Feature: feature, Threshold: threshold, Missing: missing, Left: l, Right: r}
}

func catsOf(feature int, missing api.Side, l, r int, cats ...int) api.Node {
	return api.Node{Kind: api.NodeCats, Feature: feature, Cats: cats, Missing: missing, Left: l, Right: r}
}

func treeOf(l ...api.Node) api.Tree { return api.Tree{Nodes: l} }

// stump is a tree with one inner node.
func stump(n api.Node) api.Tree {
	n.Left, n.Right = 1, 2
	return treeOf(n, leafOf(1), leafOf(2))
}

func cut(threshold float64, tree, from, to int, cats ...int) api.Cut {
	return api.Cut{Threshold: threshold, Cats: cats, Tree: tree, From: from, To: to}
}

// numbered is a list with Numbers of these thresholds, which are told apart by their trees.
func numbered(thresholds ...float64) api.List {
	var l api.List
	for i, v := range thresholds {
		l.Numbers = append(l.Numbers, cut(v, i, 0, 1))
	}
	return l
}

// treeA and treeB are the chapter's.
func treeA() api.Tree { return treeOf(numberOf(1, 2, right, 1, 2), leafOf(10), leafOf(20)) }

func treeB() api.Tree {
	return treeOf(numberOf(1, 1, left, 1, 4), catsOf(0, right, 2, 3, 4), leafOf(1), leafOf(2), leafOf(3))
}

// sameCuts holds thresholds against each other by their bits; nil and empty lists are alike.
func sameCuts(a, b []api.Cut) bool {
	return slices.EqualFunc(a, b, func(c, d api.Cut) bool {
		return math.Float64bits(c.Threshold) == math.Float64bits(d.Threshold) && slices.Equal(c.Cats, d.Cats) && c.Tree == d.Tree && c.From == d.From && c.To == d.To
	})
}

func sameLists(a, b []api.List) bool {
	return slices.EqualFunc(a, b, func(c, d api.List) bool {
		return c.Feature == d.Feature && sameCuts(c.Numbers, d.Numbers) && sameCuts(c.Cats, d.Cats) && sameCuts(c.Lost, d.Lost)
	})
}

// listed holds Of to what it should answer.
func listed(t *testing.T, what string, l []api.Tree, features int, want ...api.List) []api.List {
	t.Helper()
	got, why := Of(l, features)
	if why != api.OK || !sameLists(got, want) {
		t.Errorf("P14.1: %s: %v, %d, not %v", what, got, why, want)
	}
	return got
}

func refused(t *testing.T, what string, l []api.Tree, features int, want api.Errno) {
	t.Helper()
	got, why := Of(l, features)
	if why != want {
		t.Errorf("P14.1: %s: %d, not %d", what, why, want)
	}
	if got != nil {
		t.Errorf("P2: %s: %d lists beside an error", what, len(got))
	}
}

func TestExamples(t *testing.T) {
	of0 := api.List{Feature: 0, Cats: []api.Cut{cut(0, 1, 0, 1, 4)}, Lost: []api.Cut{cut(0, 1, 0, 1, 4)}}
	of1 := api.List{Feature: 1, Numbers: []api.Cut{cut(1, 1, 0, 2), cut(2, 0, 0, 1)}, Lost: []api.Cut{cut(2, 0, 0, 1)}}
	l := listed(t, "example 1", []api.Tree{treeA(), treeB()}, 2, of0, of1)
	refused(t, "example 1", []api.Tree{treeA()}, 1, api.ErrVector)
	listed(t, "example 1", nil, 5)
	refused(t, "example 1", nil, -1, api.ErrRange)
	for x, want := range map[float64]int{1: 0, 1.5: 1, 3: 2, nan: 0} {
		if n := First(l[1], x); n != want {
			t.Errorf("P14.2: First(%v) = %d", x, n)
		}
	}
	if f := False(l[1], 1.5); !sameCuts(f, []api.Cut{cut(1, 1, 0, 2)}) {
		t.Error("P14.2: False(1.5) =", f)
	}
	if f := False(l[1], nan); !sameCuts(f, []api.Cut{cut(2, 0, 0, 1)}) {
		t.Error("P14.2: False(NaN) =", f)
	}
	for x, want := range map[float64]int{1.5: 2, 3: 2, 0: 1, nan: 1} {
		if n := Work(l[1], x); n != want {
			t.Errorf("P14.2: Work(%v) = %d", x, n)
		}
	}
	if f := False(l[0], 4); len(f) != 0 {
		t.Error("P14.2: False(4) =", f)
	}
	if f := False(l[0], 4.5); !sameCuts(f, of0.Cats) {
		t.Error("P14.2: False(4.5) =", f)
	}
	if n := Work(l[0], 4); n != 1 {
		t.Error("P14.2: Work(4) =", n)
	}
	g := Groups(numbered(minus0, 0, 1))
	if len(g) != 2 || g[0] != (api.Group{From: 0, To: 2}) || !math.Signbit(g[0].Threshold) || g[1] != (api.Group{Threshold: 1, From: 2, To: 3}) {
		t.Error("P14.3:", g)
	}
	if th := Thresholds([]api.Tree{treeA(), treeB(), treeA()}, 1); !slices.Equal(th, []float64{1, 2}) {
		t.Error("P14.4:", th)
	}
	if c := Categories([]api.Tree{treeB()}, 0); !slices.Equal(c, []int{4}) {
		t.Error("P14.4:", c)
	}
}

// Numbers of one threshold stay in order, whatever the sign of a nought; Cats and Lost are in order alone.
func TestOrderOfCuts(t *testing.T) {
	var l []api.Tree
	for _, v := range []float64{1, 0, -endless, minus0, endless, 1, minus0, 0, -1, endless, 1} {
		l = append(l, stump(numberOf(3, v, right, 0, 0)))
	}
	var numbers, lost []api.Cut
	for _, i := range []int{2, 8, 1, 3, 6, 7, 0, 5, 10, 4, 9} {
		numbers = append(numbers, cut(l[i].Nodes[0].Threshold, i, 0, 1))
	}
	for i := range l {
		lost = append(lost, cut(l[i].Nodes[0].Threshold, i, 0, 1))
	}
	listed(t, "alike thresholds", l, 4, api.List{Feature: 3, Numbers: numbers, Lost: lost})

	// In one tree: a node ahead of those below it, those below its Left ahead of those below its Right.
	g := treeOf(numberOf(0, 5, left, 6, 1), catsOf(0, right, 2, 3, 7), leafOf(1), numberOf(0, 5, right, 4, 5), leafOf(2), leafOf(3), numberOf(0, 5, right, 8, 7), leafOf(4), catsOf(0, right, 9, 10, 2, 3), leafOf(5), leafOf(6))
	numbers = []api.Cut{cut(5, 0, 0, 3), cut(5, 0, 0, 2), cut(5, 0, 4, 5)}
	cats := []api.Cut{cut(0, 0, 0, 1, 2, 3), cut(0, 0, 3, 4, 7)}
	listed(t, "one tree", []api.Tree{g}, 1, api.List{Feature: 0, Numbers: numbers, Cats: cats, Lost: []api.Cut{numbers[1], cats[0], cats[1], numbers[2]}})
}

// Only features that inner nodes have get a list; a list may have Cats alone, or nothing Lost.
func TestListsOfFeatures(t *testing.T) {
	leaf := treeOf(leafOf(7))
	listed(t, "leaves alone", []api.Tree{leaf, leaf}, 0)
	listed(t, "leaves alone", []api.Tree{leaf, leaf}, 3)
	listed(t, "no trees", []api.Tree{}, 0)
	listed(t, "apart", []api.Tree{stump(numberOf(9, 1, left, 0, 0)), leaf, stump(catsOf(4, left, 0, 0, 0, 1023)), stump(numberOf(0, endless, right, 0, 0))}, 10,
		api.List{Feature: 0, Numbers: []api.Cut{cut(endless, 3, 0, 1)}, Lost: []api.Cut{cut(endless, 3, 0, 1)}}, api.List{Feature: 4, Cats: []api.Cut{cut(0, 2, 0, 1, 0, 1023)}}, api.List{Feature: 9, Numbers: []api.Cut{cut(1, 0, 0, 1)}})
}

// An answer does not hang on a map's order: many features, again and again.
func TestRisingFeatures(t *testing.T) {
	r := source()
	var l []api.Tree
	for _, f := range r.Perm(500) {
		l = append(l, stump(numberOf(f*7, float64(f%3), right, 0, 0)))
	}
	first, why := Of(l, api.MaxFeatures)
	if why != api.OK || len(first) != 500 {
		t.Fatalf("P14.1: %d lists, %d", len(first), why)
	}
	for i := range first {
		if first[i].Feature != 7*i {
			t.Fatalf("P14.1: feature %d at %d", first[i].Feature, i)
		}
	}
	for range 50 {
		if again, _ := Of(l, api.MaxFeatures); !reflect.DeepEqual(again, first) {
			t.Fatal("P3: Of answers otherwise the second time")
		}
	}
}

// In lists that are handed in Numbers need not rise, and may have any thresholds.
func TestFirstOfAnyList(t *testing.T) {
	for _, c := range []struct {
		l     api.List
		x     float64
		first int
	}{
		{numbered(), 1, 0}, {numbered(), nan, 0}, {numbered(), endless, 0},
		{numbered(1, 2, 3), 0, 0}, {numbered(1, 2, 3), 1, 0}, {numbered(1, 2, 3), math.Nextafter(1, 2), 1}, {numbered(1, 2, 3), 2, 1}, {numbered(1, 2, 3), 3, 2}, {numbered(1, 2, 3), 4, 3}, {numbered(1, 2, 3), endless, 3}, {numbered(1, 2, 3), -endless, 0}, {numbered(1, 2, 3), nan, 0},
		{numbered(3, 1, 2), 2, 0}, {numbered(3, 1, 2), 3, 0}, {numbered(3, 1, 2), 3.5, 3}, {numbered(1, 3, 2), 2.5, 1}, {numbered(1, 2, 2, 1, 5, 1), 3, 4}, {numbered(2, 1, 0, -1), 1.5, 0},
		{numbered(nan, 1), 5, 0}, {numbered(1, nan, 2), 5, 1}, {numbered(1, 2, nan), 5, 2}, {numbered(1, 2, nan), 2, 1}, {numbered(nan), nan, 0}, {numbered(nan), endless, 0},
		{numbered(endless), endless, 0}, {numbered(-endless), -endless, 0}, {numbered(-endless), -math.MaxFloat64, 1}, {numbered(-endless, endless, 1), endless, 1}, {numbered(-endless, math.MaxFloat64), endless, 2},
		{numbered(0, minus0), 0, 0}, {numbered(minus0, 0), minus0, 0}, {numbered(minus0, 0), 0, 0}, {numbered(minus0, 0, 5e-324), 5e-324, 2}, {numbered(0, 1), -5e-324, 0},
	} {
		if n := First(c.l, c.x); n != c.first {
			t.Errorf("P14.2: First(%v, %v) = %d", c.l, c.x, n)
		}
		want := c.l.Numbers[:c.first]
		if f := False(c.l, c.x); !sameCuts(f, want) {
			t.Errorf("P14.2: False(%v, %v) = %v", c.l, c.x, f)
		}
		work := c.first
		if c.first < len(c.l.Numbers) && c.x == c.x {
			work++
		}
		if n := Work(c.l, c.x); n != work {
			t.Errorf("P14.2: Work(%v, %v) = %d", c.l, c.x, n)
		}
	}
}

// A number is held against each category as a float64; those of which it is none stand behind the Numbers.
func TestFalseOfCategories(t *testing.T) {
	l := api.List{Feature: 3, Numbers: []api.Cut{cut(1, 0, 0, 1), cut(2, 1, 0, 1)}, Lost: []api.Cut{cut(7, 9, 1, 2), cut(0, 8, 2, 3, 5, 6)},
		Cats: []api.Cut{cut(0, 2, 0, 1, 0, 3), cut(0, 3, 0, 1, 3, 1023), cut(0, 4, 0, 1), cut(0, 5, 0, 1, 9, -4, 9)}}
	for _, c := range []struct {
		x     float64
		trees []int
		work  int
	}{
		{0, []int{3, 4, 5}, 5}, {minus0, []int{3, 4, 5}, 5}, {3, []int{0, 1, 4, 5}, 6}, {3.5, []int{0, 1, 2, 3, 4, 5}, 6}, {math.Nextafter(3, 4), []int{0, 1, 2, 3, 4, 5}, 6}, {1023, []int{0, 1, 2, 4, 5}, 6}, {9, []int{0, 1, 2, 3, 4}, 6}, {-4, []int{2, 3, 4}, 5}, {1.5, []int{0, 2, 3, 4, 5}, 6},
		{1, []int{2, 3, 4, 5}, 5}, {endless, []int{0, 1, 2, 3, 4, 5}, 6}, {-endless, []int{2, 3, 4, 5}, 5}, {nan, []int{9, 8}, 2}, {math.Float64frombits(0xfff0000000000001), []int{9, 8}, 2},
	} {
		var trees []int
		f := False(l, c.x)
		for _, one := range f {
			trees = append(trees, one.Tree)
		}
		if !slices.Equal(trees, c.trees) || Work(l, c.x) != c.work {
			t.Errorf("P14.2: at %v: trees %v, work %d", c.x, trees, Work(l, c.x))
		}
	}
	if f := False(l, nan); !sameCuts(f, l.Lost) {
		t.Error("P14.2: False(NaN) =", f)
	}
	// Hand-made ones that float64 has no room for.
	far := api.List{Cats: []api.Cut{cut(0, 0, 0, 0, math.MaxInt), cut(0, 1, 0, 0, math.MinInt), cut(5, -1, 7, -7, 1, 2)}}
	if math.MaxInt > 1<<53 && len(False(far, float64(math.MaxInt))) != 2 || len(False(far, float64(math.MinInt))) != 2 || len(False(far, 0)) != 3 {
		t.Error("P14.2: far categories")
	}
	if f := False(far, 2); len(f) != 2 || !sameCuts(False(far, 7)[2:], far.Cats[2:]) {
		t.Error("P14.2: cuts of any numbers:", f)
	}
}

// What no list has is not looked at.
func TestEmptyLists(t *testing.T) {
	for _, l := range []api.List{{}, {Feature: -4}, {Numbers: []api.Cut{}, Cats: []api.Cut{}, Lost: []api.Cut{}}} {
		for _, x := range []float64{0, 1, nan, endless, -endless} {
			if First(l, x) != 0 || len(False(l, x)) != 0 || Work(l, x) != 0 {
				t.Errorf("P14.2: an empty list at %v: %d, %v, %d", x, First(l, x), False(l, x), Work(l, x))
			}
		}
		if g := Groups(l); len(g) != 0 {
			t.Error("P14.3: groups of an empty list:", g)
		}
	}
	lost := api.List{Lost: []api.Cut{cut(1, 0, 0, 1)}}
	if Work(lost, nan) != 1 || Work(lost, 1) != 0 || len(False(lost, 2)) != 0 || len(False(lost, nan)) != 1 || First(lost, nan) != 0 || len(Groups(lost)) != 0 {
		t.Error("P14.2: a list of Lost alone")
	}
	cats := api.List{Cats: []api.Cut{cut(1, 0, 0, 1, 1)}}
	if Work(cats, nan) != 0 || Work(cats, 1) != 1 || len(False(cats, 1)) != 0 || len(False(cats, nan)) != 0 || First(cats, 9) != 0 || len(Groups(cats)) != 0 {
		t.Error("P14.2: a list of Cats alone")
	}
}

func group(threshold float64, from, to int) api.Group {
	return api.Group{Threshold: threshold, From: from, To: to}
}

func TestGroups(t *testing.T) {
	for _, c := range []struct {
		l    api.List
		want []api.Group
	}{
		{numbered(5), []api.Group{group(5, 0, 1)}}, {numbered(5, 5, 5), []api.Group{group(5, 0, 3)}}, {numbered(1, 2, 3), []api.Group{group(1, 0, 1), group(2, 1, 2), group(3, 2, 3)}}, {numbered(1, 1, 2, 2, 2, 1), []api.Group{group(1, 0, 2), group(2, 2, 5), group(1, 5, 6)}},
		{numbered(endless, endless, -endless), []api.Group{group(endless, 0, 2), group(-endless, 2, 3)}}, {numbered(0, minus0, 0), []api.Group{group(0, 0, 3)}}, {numbered(1, minus0, 0), []api.Group{group(1, 0, 1), group(minus0, 1, 3)}}, {numbered(0, 5e-324), []api.Group{group(0, 0, 1), group(5e-324, 1, 2)}},
		{numbered(nan), []api.Group{group(nan, 0, 1)}}, {numbered(nan, nan, 1, 1, nan), []api.Group{group(nan, 0, 1), group(nan, 1, 2), group(1, 2, 4), group(nan, 4, 5)}}, {numbered(1, nan, 1), []api.Group{group(1, 0, 1), group(nan, 1, 2), group(1, 2, 3)}},
	} {
		g := Groups(c.l)
		if !slices.EqualFunc(g, c.want, func(a, b api.Group) bool {
			return (math.Float64bits(a.Threshold) == math.Float64bits(b.Threshold) || a.Threshold != a.Threshold && b.Threshold != b.Threshold) && a.From == b.From && a.To == b.To
		}) {
			t.Errorf("P14.3: Groups(%v) = %v", c.l, g)
		}
	}
}

// Thresholds and Categories look at nodes in whatever trees, right or not.
func TestNodesOfAnyTrees(t *testing.T) {
	l := []api.Tree{
		treeOf(numberOf(0, 3, left, 0, 0), numberOf(0, nan, 9, -5, 1<<30), numberOf(0, minus0, left, 1, 1), numberOf(-1, 8, left, 1, 2)), {},
		treeOf(numberOf(1, 4, left, 1, 2), numberOf(0, -1, left, 0, 0), catsOf(0, left, 0, 0, 7, 3, 7), numberOf(0, endless, left, 0, 0), numberOf(0, -endless, left, 0, 0)),
		treeOf(catsOf(0, left, 0, 0, -2, 3, 1<<30), api.Node{Kind: api.NodeLeaf, Threshold: 55, Cats: []int{55}}, api.Node{Kind: api.NodeNone, Threshold: 56, Cats: []int{56}}, api.Node{Kind: api.NodeCount, Threshold: 57, Cats: []int{57}}, api.Node{Kind: 200, Threshold: 58, Cats: []int{58}}),
		treeOf(api.Node{Kind: api.NodeNumber, Threshold: 3, Cats: []int{59}}, api.Node{Kind: api.NodeCats, Threshold: 60, Cats: []int{5}}, catsOf(-1, left, 1, 2, 6), catsOf(math.MaxInt, left, 1, 2, 1, 0), catsOf(2, left, 1, 2), numberOf(math.MinInt, 2, left, 1, 2)),
	}
	for feature, want := range map[int][]float64{0: {-endless, -1, 0, 3, endless}, -1: {8}, 1: {4}, 2: nil, 3: nil, -2: nil, math.MaxInt: nil, math.MinInt: {2}} {
		th := Thresholds(l, feature)
		if !slices.Equal(th, want) || feature == 0 && math.Signbit(th[2]) {
			t.Errorf("P14.4: Thresholds of %d: %v", feature, th)
		}
	}
	for feature, want := range map[int][]int{0: {-2, 3, 5, 7, 1 << 30}, -1: {6}, 1: nil, 2: nil, 3: nil, -2: nil, math.MaxInt: {0, 1}, math.MinInt: nil} {
		if c := Categories(l, feature); !slices.Equal(c, want) {
			t.Errorf("P14.4: Categories of %d: %v", feature, c)
		}
	}
	for _, none := range [][]api.Tree{nil, {}, {{}}, {treeOf(leafOf(1))}} {
		for _, feature := range []int{-1, 0, 1, api.MaxFeatures} {
			if len(Thresholds(none, feature)) != 0 || len(Categories(none, feature)) != 0 {
				t.Errorf("P14.4: of no nodes: %v, %v", Thresholds(none, feature), Categories(none, feature))
			}
		}
	}
	only := []api.Tree{treeOf(numberOf(0, nan, left, 1, 2))}
	if th := Thresholds(only, 0); len(th) != 0 {
		t.Error("P14.4: Thresholds of NaN alone:", th)
	}
}

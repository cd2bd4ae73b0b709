package blocks

import (
	"fmt"
	"math"
	"math/rand/v2"
	"reflect"
	"slices"
	"strings"
	"testing"

	"thicket/api"
	"thicket/trees"
)

const (
	left  = api.SideLeft
	right = api.SideRight
)

var (
	nan     = math.NaN()
	endless = math.Inf(1)
	minus0  = math.Copysign(0, -1)
)

func source() *rand.Rand { return rand.New(rand.NewPCG(15, 15)) }

func leafOf(v int64) api.Node { return api.Node{Kind: api.NodeLeaf, Value: v} }

func numberOf(feature int, threshold float64, missing api.Side, l, r int) api.Node {
	return api.Node{Kind: api.NodeNumber, Feature: feature, Threshold: threshold, Missing: missing, Left: l, Right: r}
}

func catsOf(feature int, missing api.Side, l, r int, cats ...int) api.Node {
	return api.Node{Kind: api.NodeCats, Feature: feature, Cats: cats, Missing: missing, Left: l, Right: r}
}

func treeOf(l ...api.Node) api.Tree { return api.Tree{Nodes: l} }

// stump is a tree with one inner node.
func stump(n api.Node) api.Tree {
	n.Left, n.Right = 1, 2
	return treeOf(n, leafOf(1), leafOf(2))
}

// bushy is a tree with so many inner nodes, all of them below one another's Left.
func bushy(inner int) api.Tree { return chain(inner+1, left, 0) }

func cut(threshold float64, tree, from, to int, cats ...int) api.Cut {
	return api.Cut{Threshold: threshold, Cats: cats, Tree: tree, From: from, To: to}
}

func runs(l ...int) []api.Run {
	var out []api.Run
	for i := 0; i < len(l); i += 2 {
		out = append(out, api.Run{From: l[i], To: l[i+1]})
	}
	return out
}

// ensemble has these trees, so many features and an output.
func ensemble(features int, l ...api.Tree) api.Ensemble {
	return api.Ensemble{Name: "m", Features: make([]string, features), Outputs: 1, Base: []int64{100}, Trees: l}
}

// treeA and treeB are the chapter's, and pair its ensemble.
func treeA() api.Tree { return treeOf(numberOf(1, 2, right, 1, 2), leafOf(10), leafOf(20)) }

func treeB() api.Tree {
	return treeOf(numberOf(1, 1, left, 1, 4), catsOf(0, right, 2, 3, 4), leafOf(1), leafOf(2), leafOf(3))
}

func pair() api.Ensemble { return ensemble(2, treeA(), treeB()) }

// said is all that a form says, as a text: thresholds by their bits, nil and empty lists alike.
func said(f api.Form) string {
	var s strings.Builder
	fmt.Fprintf(&s, "%d features, %d outputs, base %d\n", f.Features, f.Outputs, f.Base)
	for _, b := range f.Blocks {
		fmt.Fprintf(&s, "first %d leaves %d values %d outputs %d\n", b.First, b.Leaves, b.Values, b.Outputs)
		for _, l := range b.Lists {
			fmt.Fprintf(&s, "feature %d\n", l.Feature)
			for k, cuts := range [][]api.Cut{l.Numbers, l.Cats, l.Lost} {
				for _, c := range cuts {
					fmt.Fprintf(&s, "%d: %x %d tree %d, %d to %d\n", k, math.Float64bits(c.Threshold), c.Cats, c.Tree, c.From, c.To)
				}
			}
		}
	}
	return s.String()
}

// compiled is a form that there is no error of.
func compiled(t *testing.T, e api.Ensemble, l []api.Run) api.Form {
	t.Helper()
	f, why := Of(e, l)
	if why != api.OK {
		t.Fatalf("15.3: Of(%v, %v): %d", e, l, why)
	}
	return f
}

func isRuns(t *testing.T, what string, l []api.Run, why api.Errno, want []api.Run) {
	t.Helper()
	if why != api.OK || !slices.Equal(l, want) {
		t.Errorf("%s: %v, %d, not %v", what, l, why, want)
	}
}

func noRuns(t *testing.T, what string, l []api.Run, why, want api.Errno) {
	t.Helper()
	if why != want {
		t.Errorf("%s: %d, not %d", what, why, want)
	}
	if l != nil {
		t.Errorf("P2: %s: %v beside an error", what, l)
	}
}

func isForm(t *testing.T, what string, f api.Form, why api.Errno, want api.Form) {
	t.Helper()
	if why != api.OK || said(f) != said(want) {
		t.Errorf("%s: %d:\n%snot\n%s", what, why, said(f), said(want))
	}
}

func noForm(t *testing.T, what string, f api.Form, why, want api.Errno) {
	t.Helper()
	if why != want {
		t.Errorf("%s: %d, not %d", what, why, want)
	}
	if !reflect.DeepEqual(f, api.Form{}) {
		t.Errorf("P2: %s: a form beside an error: %s", what, said(f))
	}
}

// isRight holds a form to be right.
func isRight(t *testing.T, what string, f api.Form) []api.Tree {
	t.Helper()
	if why, at := Check(f); why != api.OK || at != 0 {
		t.Errorf("15.4: %s: Check = %d, %d of\n%s", what, why, at, said(f))
	}
	l, why := Back(f)
	if why != api.OK {
		t.Errorf("15.4: %s: Back = %d of\n%s", what, why, said(f))
	}
	return l
}

// isWrong holds a form to be of no ensemble, by the block of that number.
func isWrong(t *testing.T, what string, f api.Form, want int) {
	t.Helper()
	if why, at := Check(f); why != api.ErrForm || at != want {
		t.Errorf("15.4: %s: Check = %d, %d, not ErrForm, %d, of\n%s", what, why, at, want, said(f))
	}
	l, why := Back(f)
	if why != api.ErrForm {
		t.Errorf("15.4: %s: Back = %d of\n%s", what, why, said(f))
	}
	if l != nil {
		t.Errorf("P2: %s: %d trees beside an error", what, len(l))
	}
}

// wide and narrow are what the chapter's example is compiled to, in one block and in two.
func wide() api.Form {
	of0 := api.List{Feature: 0, Cats: []api.Cut{cut(0, 1, 0, 1, 4)}, Lost: []api.Cut{cut(0, 1, 0, 1, 4)}}
	of1 := api.List{Feature: 1, Numbers: []api.Cut{cut(1, 1, 0, 2), cut(2, 0, 0, 1)}, Lost: []api.Cut{cut(2, 0, 0, 1)}}
	return api.Form{Features: 2, Outputs: 1, Base: []int64{100}, Blocks: []api.Block{
		{Leaves: []int{2, 3}, Values: [][]int64{{10, 20}, {1, 2, 3}}, Outputs: []int{0, 0}, Lists: []api.List{of0, of1}},
	}}
}

func narrow() api.Form {
	ofA := []api.List{{Feature: 1, Numbers: []api.Cut{cut(2, 0, 0, 1)}, Lost: []api.Cut{cut(2, 0, 0, 1)}}}
	ofB := []api.List{{Feature: 0, Cats: []api.Cut{cut(0, 0, 0, 1, 4)}, Lost: []api.Cut{cut(0, 0, 0, 1, 4)}}, {Feature: 1, Numbers: []api.Cut{cut(1, 0, 0, 2)}}}
	return api.Form{Features: 2, Outputs: 1, Base: []int64{100}, Blocks: []api.Block{
		{First: 0, Leaves: []int{2}, Values: [][]int64{{10, 20}}, Outputs: []int{0}, Lists: ofA},
		{First: 1, Leaves: []int{3}, Values: [][]int64{{1, 2, 3}}, Outputs: []int{0}, Lists: ofB},
	}}
}

func TestExamples(t *testing.T) {
	l, why := Split(5, 2)
	isRuns(t, "example 1", l, why, runs(0, 2, 2, 4, 4, 5))
	l, why = Split(0, 1)
	isRuns(t, "example 1", l, why, nil)
	l, why = Split(5, 0)
	noRuns(t, "example 1", l, why, api.ErrRange)
	f, why := Compile(pair(), 2)
	isForm(t, "example 2", f, why, wide())
	isRight(t, "example 2", f)
	g, why := Compile(pair(), 1)
	isForm(t, "example 3", g, why, narrow())
	isRight(t, "example 3", g)
	n := f.Blocks[0].Lists[1].Numbers
	n[0], n[1] = n[1], n[0]
	isWrong(t, "example 4: two Numbers exchanged", f, 0)
	g.Blocks[1].First = 0
	isWrong(t, "example 4: the second block's First 0", g, 1)
	for most, want := range map[int][]api.Run{2: runs(0, 1, 1, 2), 3: runs(0, 2), 0: runs(0, 1, 1, 2)} {
		l, why = Plan(pair(), most)
		isRuns(t, "example 5", l, why, want)
	}
}

func TestSplit(t *testing.T) {
	const most = api.MaxTrees
	for _, c := range []struct {
		trees, b int
		want     []api.Run
	}{
		{0, 1, nil}, {0, most, nil}, {1, 1, runs(0, 1)}, {1, 2, runs(0, 1)}, {1, most, runs(0, 1)}, {2, 1, runs(0, 1, 1, 2)}, {2, 2, runs(0, 2)}, {6, 3, runs(0, 3, 3, 6)}, {7, 3, runs(0, 3, 3, 6, 6, 7)},
		{8, 3, runs(0, 3, 3, 6, 6, 8)}, {5, 6, runs(0, 5)}, {5, 5, runs(0, 5)}, {5, 4, runs(0, 4, 4, 5)}, {most, most, runs(0, most)}, {most, most - 1, runs(0, most-1, most-1, most)}, {most - 1, most, runs(0, most-1)}, {most, most / 2, runs(0, most/2, most/2, most)},
	} {
		l, why := Split(c.trees, c.b)
		isRuns(t, fmt.Sprintf("15.1: Split(%d, %d)", c.trees, c.b), l, why, c.want)
	}
	for _, c := range [][2]int{{-1, 1}, {math.MinInt, 1}, {most + 1, 1}, {math.MaxInt, 1}, {0, 0}, {0, -1}, {5, -1}, {5, 0}, {5, math.MinInt}, {0, most + 1}, {5, most + 1}, {most, math.MaxInt}, {-1, 0}, {most + 1, most + 1}, {most + 1, most}} {
		l, why := Split(c[0], c[1])
		noRuns(t, fmt.Sprintf("15.1: Split(%d, %d)", c[0], c[1]), l, why, api.ErrRange)
	}
	if l, why := Split(most, 1); why != api.OK || len(l) != most || l[most-1] != (api.Run{From: most - 1, To: most}) {
		t.Errorf("15.1: blocks of one: %d, %d", len(l), why)
	}
}

func TestPlan(t *testing.T) {
	leaf := treeOf(leafOf(7))
	of := func(inner ...int) api.Ensemble {
		e := ensemble(1)
		for _, n := range inner {
			e.Trees = append(e.Trees, bushy(n))
		}
		return e
	}
	for _, c := range []struct {
		e    api.Ensemble
		most int
		want []api.Run
	}{
		{of(), 0, nil}, {of(), 5, nil}, {of(0), 0, runs(0, 1)}, {of(3), 0, runs(0, 1)}, {of(0, 0, 0), 0, runs(0, 3)}, {of(1, 1, 1), 0, runs(0, 1, 1, 2, 2, 3)}, {of(1, 1, 1), 1, runs(0, 1, 1, 2, 2, 3)},
		{of(1, 1, 1), 2, runs(0, 2, 2, 3)}, {of(1, 1, 1), 3, runs(0, 3)}, {of(1, 1, 1), math.MaxInt, runs(0, 3)}, {of(2, 2, 2, 2), 4, runs(0, 2, 2, 4)}, {of(2, 2, 2, 2), 5, runs(0, 2, 2, 4)}, {of(2, 2, 2, 2), 6, runs(0, 3, 3, 4)},
		{of(9, 1, 1), 2, runs(0, 1, 1, 3)}, {of(1, 9, 1), 2, runs(0, 1, 1, 2, 2, 3)}, {of(1, 1, 9), 2, runs(0, 2, 2, 3)}, {of(9, 0, 0), 2, runs(0, 1, 1, 3)}, {of(9, 0, 0), 9, runs(0, 3)}, {of(9, 0, 0), 8, runs(0, 1, 1, 3)},
		{of(0, 9, 0), 2, runs(0, 1, 1, 2, 2, 3)}, {of(0, 0, 1, 0, 1, 0), 1, runs(0, 4, 4, 6)}, {of(0, 1, 0, 1), 0, runs(0, 1, 1, 2, 2, 3, 3, 4)}, {of(3, 0, 2, 1, 1), 3, runs(0, 2, 2, 4, 4, 5)},
		{ensemble(0, leaf, leaf), 0, runs(0, 2)}, {pair(), 1, runs(0, 1, 1, 2)}, {pair(), math.MaxInt, runs(0, 2)},
	} {
		l, why := Plan(c.e, c.most)
		isRuns(t, fmt.Sprintf("15.2: %d trees, most %d", len(c.e.Trees), c.most), l, why, c.want)
	}
	for _, most := range []int{-1, math.MinInt} {
		for _, e := range []api.Ensemble{pair(), of()} {
			l, why := Plan(e, most)
			noRuns(t, "15.2: most below 0", l, why, api.ErrRange)
		}
	}
}

// Only what covers the trees, one behind another, none empty, are blocks.
func TestBlocks(t *testing.T) {
	e := ensemble(2, treeA(), treeB(), treeOf(leafOf(4)), treeA())
	for _, l := range [][]api.Run{runs(0, 4), runs(0, 1, 1, 4), runs(0, 3, 3, 4), runs(0, 1, 1, 2, 2, 3, 3, 4), runs(0, 2, 2, 3, 3, 4)} {
		f := compiled(t, e, l)
		for i, b := range f.Blocks {
			if b.First != l[i].From || len(b.Leaves) != l[i].To-l[i].From {
				t.Errorf("15.3: %v: block %d: %v", l, i, b)
			}
		}
		if len(f.Blocks) != len(l) {
			t.Errorf("15.3: %v: %d blocks", l, len(f.Blocks))
		}
		isRight(t, "blocks", f)
	}
	for what, l := range map[string][]api.Run{
		"none": nil, "an empty list": {}, "not from 0 on": runs(1, 4), "from below 0 on": runs(-1, 4), "not from 0 on, in two": runs(1, 2, 2, 4), "a gap": runs(0, 1, 2, 4), "overlapping": runs(0, 2, 1, 4), "twice": runs(0, 4, 0, 4),
		"empty, first": runs(0, 0, 0, 4), "empty, between": runs(0, 2, 2, 2, 2, 4), "empty, last": runs(0, 4, 4, 4), "empty alone": runs(0, 0), "too early": runs(0, 3), "too early, in two": runs(0, 1, 1, 3), "too late": runs(0, 5), "too late, in two": runs(0, 3, 3, 5),
		"one more": runs(0, 4, 4, 5), "backward": runs(4, 0), "backward between": runs(0, 3, 3, 2, 2, 4), "out of order": runs(2, 4, 0, 2), "back and on": runs(0, 4, 4, 3, 3, 4), "far": runs(0, math.MaxInt), "far below": runs(0, math.MinInt, math.MinInt, 4), "below 0": runs(0, -1, -1, 4),
	} {
		f, why := Of(e, l)
		noForm(t, "15.3: "+what, f, why, api.ErrSize)
	}
	none := ensemble(2)
	for _, l := range [][]api.Run{nil, {}} {
		f, why := Of(none, l)
		isForm(t, "15.3: no trees", f, why, api.Form{Features: 2, Outputs: 1, Base: []int64{100}})
		isRight(t, "no trees", f)
	}
	for _, l := range [][]api.Run{runs(0, 0), runs(0, 1), runs(1, 1), runs(-1, 0)} {
		f, why := Of(none, l)
		noForm(t, "15.3: blocks of no trees", f, why, api.ErrSize)
	}
	for b, want := range map[int]api.Errno{0: api.ErrRange, -1: api.ErrRange, math.MinInt: api.ErrRange, api.MaxTrees + 1: api.ErrRange, math.MaxInt: api.ErrRange} {
		for _, e := range []api.Ensemble{e, none} {
			f, why := Compile(e, b)
			noForm(t, "15.3: Compile in blocks of "+fmt.Sprint(b), f, why, want)
		}
	}
	for _, b := range []int{1, 2, 3, 4, 5, api.MaxTrees} {
		f, why := Compile(e, b)
		l, _ := Split(4, b)
		isForm(t, "15.3: Compile", f, why, compiled(t, e, l))
	}
}

// Thresholds that are alike stay tree by tree, noughts of both signs among them, and keep their bits; so the trees come back bit for bit.
func TestAlikeThresholds(t *testing.T) {
	e := ensemble(1)
	for _, v := range []float64{1, 0, minus0, -1, minus0, 1, 0, endless, -endless, endless} {
		e.Trees = append(e.Trees, stump(numberOf(0, v, right, 0, 0)))
	}
	f := compiled(t, e, runs(0, 10))
	var numbers, lost []api.Cut
	for _, i := range []int{8, 3, 1, 2, 4, 6, 0, 5, 7, 9} {
		numbers = append(numbers, cut(e.Trees[i].Nodes[0].Threshold, i, 0, 1))
	}
	for i, g := range e.Trees {
		lost = append(lost, cut(g.Nodes[0].Threshold, i, 0, 1))
	}
	want := api.Block{Leaves: slices.Repeat([]int{2}, 10), Values: slices.Repeat([][]int64{{1, 2}}, 10), Outputs: make([]int, 10), Lists: []api.List{{Numbers: numbers, Lost: lost}}}
	isForm(t, "15.3: alike thresholds", f, api.OK, api.Form{Features: 1, Outputs: 1, Base: []int64{100}, Blocks: []api.Block{want}})
	isBack(t, "alike thresholds", e, f)
	n := f.Blocks[0].Lists[0].Numbers
	for i := range len(n) - 1 { // such as are alike may not be exchanged either
		n[i], n[i+1] = n[i+1], n[i]
		isWrong(t, "neighbours exchanged", f, 0)
		n[i], n[i+1] = n[i+1], n[i]
	}
	for i := range n { // a nought of the other sign is of another tree, which Lost tells too
		if n[i].Threshold == 0 {
			n[i].Threshold = -n[i].Threshold
			isWrong(t, "another nought in Numbers", f, 0)
			f.Blocks[0].Lists[0].Lost[n[i].Tree].Threshold = n[i].Threshold
			isRight(t, "another nought in both", f)
		}
	}
}

// isBack holds the trees that come back from a form to be those of an ensemble, each numbered from its root on.
func isBack(t *testing.T, what string, e api.Ensemble, f api.Form) {
	t.Helper()
	m, _ := trees.Model(e)
	if l := isRight(t, what, f); !slices.EqualFunc(l, m.Trees, trees.Alike) {
		t.Errorf("15.7: %s: %v, not %v", what, l, m.Trees)
	}
}

// Trees of one leaf have no cut, but a place in their block.
func TestLeaves(t *testing.T) {
	leaf := treeOf(leafOf(7))
	e := ensemble(0, leaf, leaf)
	f := compiled(t, e, runs(0, 2))
	isForm(t, "15.3: leaves alone", f, api.OK, api.Form{Outputs: 1, Base: []int64{100}, Blocks: []api.Block{{Leaves: []int{1, 1}, Values: [][]int64{{7}, {7}}, Outputs: []int{0, 0}}}})
	isBack(t, "leaves alone", e, f)
	f.Features = 1
	f.Blocks[0].Lists = []api.List{{}}
	isWrong(t, "a list without cuts", f, 0)
	f.Blocks[0].Lists[0].Lost = []api.Cut{cut(0, 0, 0, 1)}
	isWrong(t, "a list of Lost alone", f, 0)
	f.Blocks[0].Lists[0].Numbers = []api.Cut{cut(0, 0, 0, 1)}
	isWrong(t, "a cut of a leaf", f, 0)

	e = ensemble(2, leaf, treeA(), leaf, treeB(), leaf)
	f = compiled(t, e, runs(0, 5))
	if b := f.Blocks[0]; len(b.Lists) != 2 || b.Lists[1].Numbers[0].Tree != 3 || b.Lists[1].Numbers[1].Tree != 1 || !slices.Equal(b.Leaves, []int{1, 2, 1, 3, 1}) {
		t.Error("15.3: leaves between:", said(f))
	}
	isBack(t, "leaves between", e, f)
	e.Outputs, e.Base = 3, []int64{4, 5, 6}
	for i := range e.Trees {
		e.Trees[i].Output = (i + 2) % 3
	}
	f = compiled(t, e, runs(0, 2, 2, 5))
	if f.Outputs != 3 || !slices.Equal(f.Base, e.Base) || !slices.Equal(f.Blocks[0].Outputs, []int{2, 0}) || !slices.Equal(f.Blocks[1].Outputs, []int{1, 2, 0}) {
		t.Error("15.3: outputs:", said(f))
	}
	isBack(t, "outputs", e, f)
}

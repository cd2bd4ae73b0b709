package lanes

import (
	"fmt"
	"math"
	"slices"
	"testing"

	"thicket/api"
	"thicket/blocks"
	"thicket/quick"
	"thicket/trees"
)

const (
	left  = api.SideLeft
	right = api.SideRight
)

func leafOf(v int64) api.Node { return api.Node{Kind: api.NodeLeaf, Value: v} }

func numberOf(feature int, threshold float64, missing api.Side, l, r int) api.Node {
	return api.Node{Kind: api.NodeNumber, Feature: feature, Threshold: threshold, Missing: missing, Left: l, Right: r}
}

func catsOf(feature int, missing api.Side, l, r int, cats ...int) api.Node {
	return api.Node{Kind: api.NodeCats, Feature: feature, Cats: cats, Missing: missing, Left: l, Right: r}
}

func treeOf(l ...api.Node) api.Tree { return api.Tree{Nodes: l} }

// stump is a tree with one inner node; its leaves say 1 and 2.
func stump(n api.Node) api.Tree {
	n.Left, n.Right = 1, 2
	return treeOf(n, leafOf(1), leafOf(2))
}

// chain is a tree with so many leaves that leans all to one side; a number from 0 on comes to the leaf of that number, which says it.
func chain(leaves int, side api.Side) api.Tree {
	var t api.Tree
	for i := range leaves - 1 {
		n := numberOf(0, float64(i), right, 2*i+1, 2*i+2)
		value := i
		if side == left {
			n = numberOf(0, float64(leaves-2-i), left, 2*i+2, 2*i+1)
			value = leaves - 1 - i
		}
		t.Nodes = append(t.Nodes, n, leafOf(int64(value)))
	}
	if side == left {
		t.Nodes = append(t.Nodes, leafOf(0))
	} else {
		t.Nodes = append(t.Nodes, leafOf(int64(leaves-1)))
	}
	return t
}

// ensemble has these trees, so many features and an output.
func ensemble(features int, l ...api.Tree) api.Ensemble {
	return api.Ensemble{Name: "m", Features: make([]string, features), Outputs: 1, Base: []int64{100}, Trees: l}
}

// pair is the ensemble of chapter 16.
func pair() api.Ensemble {
	a := treeOf(numberOf(1, 2, right, 1, 2), leafOf(10), leafOf(20))
	b := treeOf(numberOf(1, 1, left, 1, 4), catsOf(0, right, 2, 3, 4), leafOf(1), leafOf(2), leafOf(3))
	return ensemble(2, a, b)
}

func formOf(t *testing.T, e api.Ensemble, b int) api.Form {
	t.Helper()
	f, why := blocks.Compile(e, b)
	if why != api.OK {
		t.Fatalf("Compile(%v, %d): %d", e, b, why)
	}
	return f
}

// scorer is one of an ensemble in blocks of b trees.
func scorer(t *testing.T, e api.Ensemble, b int) *Scorer {
	t.Helper()
	s, why := New(formOf(t, e, b))
	if why != api.OK || s == nil {
		t.Fatalf("P18.3: New: %v, %d", s, why)
	}
	return s
}

// says holds a scorer to what it should say of vectors.
func says(t *testing.T, what string, s *Scorer, l [][]float64, scores [][]int64, exits [][]int) {
	t.Helper()
	a, why, at := s.Score(l)
	if why != api.OK || at != 0 || !slices.EqualFunc(a, scores, slices.Equal[[]int64]) {
		t.Errorf("%s: Score(%.300v) = %v, %d, %d, not %v", what, l, a, why, at, scores)
	}
	e, why, at := s.Exits(l)
	if why != api.OK || at != 0 || !slices.EqualFunc(e, exits, slices.Equal[[]int]) {
		t.Errorf("%s: Exits(%.300v) = %v, %d, %d, not %v", what, l, e, why, at, exits)
	}
}

// works holds it to how many cuts it looks at.
func works(t *testing.T, what string, s *Scorer, l [][]float64, want int) {
	t.Helper()
	if n, why, at := s.Work(l); why != api.OK || at != 0 || n != want {
		t.Errorf("%s: Work(%.300v) = %d, %d, %d, not %d", what, l, n, why, at, want)
	}
}

// refused holds all calls to one error, and to the vector at fault, with which nothing else is told.
func refused(t *testing.T, what string, s *Scorer, l [][]float64, want api.Errno, place int) {
	t.Helper()
	a, why, at := s.Score(l)
	if why != want || at != place || a != nil {
		t.Errorf("%s: Score = %v, %d, %d, not %d, %d", what, a, why, at, want, place)
	}
	e, why, at := s.Exits(l)
	if why != want || at != place || e != nil {
		t.Errorf("%s: Exits = %v, %d, %d, not %d, %d", what, e, why, at, want, place)
	}
	w, why, at := s.Work(l)
	if why != want || at != place || w != 0 {
		t.Errorf("%s: Work = %v, %d, %d, not %d, %d", what, w, why, at, want, place)
	}
}

func TestNil(t *testing.T) {
	var s *Scorer
	for _, l := range [][][]float64{nil, {}, {nil}, {{}}, {{1}}, {{1}, {1, 2}}, some(20, 3)} {
		refused(t, "P18.5: a nil scorer", s, l, api.ErrNil, 0)
	}
}

// The first vector at fault is told, wherever it stands and however many are at fault.
func TestFirstAtFault(t *testing.T) {
	for _, b := range []int{1, 2} {
		s := scorer(t, pair(), b)
		for _, many := range []int{1, 7, 8, 9, 16, 17} {
			for _, wrong := range [][]float64{nil, {}, {1}, {1, 2, 3}, make([]float64, 50)} {
				for at := range many {
					l := some(many, 2)
					l[at] = wrong
					refused(t, fmt.Sprintf("P18.4: vector %d of %d", at, many), s, l, api.ErrVector, at)
					for second := at + 1; second < many; second += 1 + second/3 {
						l[second] = []float64{5}
						refused(t, fmt.Sprintf("P18.4: vectors %d and %d of %d", at, second, many), s, l, api.ErrVector, at)
					}
				}
			}
		}
		for _, none := range [][][]float64{nil, {}} {
			says(t, "P18.4: no vectors", s, none, nil, nil)
			works(t, "P18.4: no vectors", s, none, 0)
		}
	}
}

func TestLengths(t *testing.T) {
	for features := range 4 {
		e := ensemble(features, treeOf(leafOf(5)))
		if features > 0 {
			e.Trees = append(e.Trees, stump(numberOf(features-1, 0, left, 0, 0)))
		}
		s := scorer(t, e, 2)
		for n := range 6 {
			if _, why, at := s.Score(some(9, n)); n == features && why != api.OK || n != features && why != api.ErrVector || at != 0 {
				t.Errorf("P18.4: %d numbers for %d features: %d, %d", n, features, why, at)
			}
		}
	}
	s := scorer(t, ensemble(0, treeOf(leafOf(5)), treeOf(leafOf(6))), 1)
	says(t, "P18.4: no features", s, [][]float64{nil, {}}, [][]int64{{111}, {111}}, [][]int{{0, 0}, {0, 0}})
	works(t, "P18.4: no features", s, make([][]float64, 20), 0)
	if a, why, _ := s.Score(make([][]float64, 20)); why != api.OK || len(a) != 20 || a[19][0] != 111 {
		t.Error("P18.4: no features:", a, why)
	}
	many := scorer(t, ensemble(api.MaxFeatures, stump(numberOf(api.MaxFeatures-1, 0, left, 0, 0))), 1)
	x, y := make([]float64, api.MaxFeatures), make([]float64, api.MaxFeatures)
	y[api.MaxFeatures-1] = 1
	says(t, "P18.4: as many features as there may be", many, [][]float64{x, y, x}, [][]int64{{101}, {102}, {101}}, [][]int{{0}, {1}, {0}})
	refused(t, "P18.4: one too short", many, [][]float64{x, y[1:], x}, api.ErrVector, 1)
	refused(t, "P18.4: one too long", many, [][]float64{x, y, append(x, 0)}, api.ErrVector, 2)
}

// Numbers at a node of either kind and either Missing, all in one group and each beside each other.
func TestNumbersAtNodes(t *testing.T) {
	values := append([]float64{0.5, math.Nextafter(0.5, 1), math.Nextafter(0.5, 0), 0, minus0, 5e-324, -5e-324, 1, -1, 2, 3, 3.5, 1023, 1024, endless, -endless, math.MaxFloat64, -math.MaxFloat64}, nans()[:6]...)
	for _, n := range []api.Node{
		numberOf(0, 0.5, 0, 0, 0), numberOf(0, 0, 0, 0, 0), numberOf(0, minus0, 0, 0, 0), numberOf(0, endless, 0, 0, 0), numberOf(0, -endless, 0, 0, 0), numberOf(0, math.MaxFloat64, 0, 0, 0),
		catsOf(0, 0, 0, 0, 0), catsOf(0, 0, 0, 0, 3), catsOf(0, 0, 0, 0, 1, 3, 1023),
	} {
		for _, side := range []api.Side{left, right} {
			n.Missing = side
			s := scorer(t, ensemble(1, stump(n)), 1)
			for shift := range values {
				var l [][]float64
				var scores [][]int64
				var exits [][]int
				for i := range values {
					v := values[(i*(1+shift%2*4)+shift)%len(values)]
					l = append(l, []float64{v})
					exit := 0
					if goesRight(n, v) {
						exit = 1
					}
					scores, exits = append(scores, []int64{101 + int64(exit)}), append(exits, []int{exit})
				}
				says(t, "P18.4", s, l, scores, exits)
			}
		}
	}
}

// goesRight is said by the words of chapter 7.
func goesRight(n api.Node, v float64) bool {
	switch {
	case v != v:
		return n.Missing == right
	case n.Kind == api.NodeNumber:
		return v > n.Threshold
	}
	return !slices.ContainsFunc(n.Cats, func(c int) bool { return float64(c) == v })
}

// Masks of one word, of just one and of more: each leaf is come to, from either side, in every lane; the eight scans end at different places.
func TestWords(t *testing.T) {
	for _, leaves := range []int{2, 3, 62, 63, 64, 65, 66, 127, 128, 129, 192, 193, 1000, api.MaxLeaves} {
		for _, side := range []api.Side{left, right} {
			e := ensemble(1, stump(numberOf(0, 1, right, 0, 0)), chain(leaves, side), treeOf(leafOf(7)), chain(leaves, right), chain(65, left))
			var l [][]float64
			var scores [][]int64
			var exits [][]int
			add := func(v float64, of ...int) {
				l, exits = append(l, []float64{v}), append(exits, of)
				scores = append(scores, []int64{100 + int64(1+of[0]) + int64(of[1]) + 7 + int64(of[3]) + int64(of[4])})
			}
			step := max(1, leaves/150)
			for i := range (leaves + step - 1) / step {
				k := i * step * 37 % leaves // neighbours in a group lie far apart
				add(float64(k), min(1, k/2), k, 0, k, min(k, 64))
			}
			add(endless, 1, leaves-1, 0, leaves-1, 64)
			add(-endless, 0, 0, 0, 0, 0)
			lost := leaves - 1
			if side == left {
				lost = 0
			}
			add(nan, 1, lost, 0, leaves-1, 0)
			add(float64(leaves-1), min(1, (leaves-1)/2), leaves-1, 0, leaves-1, min(leaves-1, 64))
			for _, b := range []int{1, 2, 5} {
				says(t, fmt.Sprintf("P18.4: %d leaves", leaves), scorer(t, e, b), l, scores, exits)
			}
		}
	}
}

// Cuts that begin and end within words, at their edges and over several ones: in some lanes, and not in those beside them.
func TestCutsOfWords(t *testing.T) {
	edges := []int{1, 2, 63, 64, 65, 66, 127, 128, 129, 130, 191, 192, 193}
	for _, from := range append([]int{0}, edges...) {
		for _, to := range edges {
			if to <= from {
				continue
			}
			// Leaves 0 to from - 1, then those of a left subtree, then one more. Feature 0 takes the first ones out one by one, feature 1 that subtree, feature 2 its leaves one by one.
			var nodes []api.Node
			for range from {
				at := len(nodes)
				nodes = append(nodes, numberOf(0, 0, left, at+1, at+2), leafOf(-1))
			}
			at := len(nodes)
			sub := comb(to-from, at+1)
			nodes = append(nodes, numberOf(1, 0, left, at+1, at+1+len(sub)))
			nodes = append(append(nodes, sub...), leafOf(3))
			s := scorer(t, ensemble(3, treeOf(nodes...)), 1)
			says(t, fmt.Sprintf("P18.4: %d to %d", from, to), s, [][]float64{{1, 1, 0}, {1, 0, 0}, {1, 0, 1}, {1, 1, 1}, {1, 0, 0}}, [][]int64{{103}, {100}, {100 + int64(to-from-1)}, {103}, {100}}, [][]int{{to}, {from}, {to - 1}, {to}, {from}})
			if from > 0 {
				says(t, fmt.Sprintf("P18.4: %d to %d", from, to), s, [][]float64{{0, 1, 1}, {1, 1, 1}, {0, 0, 0}}, [][]int64{{99}, {103}, {99}}, [][]int{{0}, {to}, {0}})
			}
		}
	}
}

// comb is nodes of a subtree that begins at a number: so many leaves, which say their places, each node with one of them at its Left; feature 2.
func comb(leaves, at int) []api.Node {
	var l []api.Node
	for i := range leaves - 1 {
		l = append(l, numberOf(2, 0, left, at+len(l)+1, at+len(l)+2), leafOf(int64(i)))
	}
	return append(l, leafOf(int64(leaves-1)))
}

// Sums are modulo 2^64; each output has its own.
func TestSums(t *testing.T) {
	say := func(output int, l, r int64) api.Tree {
		g := treeOf(numberOf(0, 0, right, 1, 2), leafOf(l), leafOf(r))
		g.Output = output
		return g
	}
	e := api.Ensemble{Features: make([]string, 1), Outputs: 3, Base: []int64{math.MaxInt64, math.MinInt64, 5}, Trees: []api.Tree{
		say(1, -1, 1), say(0, 1, -1), say(0, math.MaxInt64, math.MinInt64), say(2, 0, 7), say(1, math.MinInt64, math.MaxInt64), say(2, 1, 7),
	}}
	for b := 1; b < 8; b++ {
		says(t, "P18.4: sums that wrap", scorer(t, e, b), [][]float64{{0}, {1}, {nan}}, [][]int64{{-1, -1, 6}, {-2, 0, 19}, {-2, 0, 19}}, [][]int{{0, 0, 0, 0, 0, 0}, {1, 1, 1, 1, 1, 1}, {1, 1, 1, 1, 1, 1}})
	}
	alone := api.Ensemble{Outputs: api.MaxOutputs, Base: make([]int64, api.MaxOutputs)}
	want := make([]int64, api.MaxOutputs)
	for i := range api.MaxOutputs {
		g := treeOf(leafOf(int64(i + 1)))
		g.Output = (7 * i) % api.MaxOutputs
		want[g.Output] = int64(i + 1)
		alone.Trees = append(alone.Trees, g)
	}
	none := make([]int, api.MaxOutputs)
	says(t, "P18.4: as many outputs as there may be", scorer(t, alone, 10), [][]float64{nil, nil}, [][]int64{want, want}, [][]int{none, none})
}

func TestNoTrees(t *testing.T) {
	e := api.Ensemble{Features: make([]string, 2), Outputs: 2, Base: []int64{4, -9}}
	s := scorer(t, e, 1)
	says(t, "P18.4: no trees", s, [][]float64{{1, nan}, {2, 3}}, [][]int64{{4, -9}, {4, -9}}, [][]int{nil, nil})
	works(t, "P18.4: no trees", s, [][]float64{{1, nan}, {2, 3}}, 0)
	refused(t, "P18.4: no trees", s, [][]float64{{1, 2}, {1}}, api.ErrVector, 1)
}

func TestMaxTrees(t *testing.T) {
	e := ensemble(1)
	for i := range api.MaxTrees {
		e.Trees = append(e.Trees, stump(numberOf(0, float64(i), right, 0, 0)))
	}
	for _, b := range []int{1, 1000, api.MaxTrees} {
		s := scorer(t, e, b)
		sums, why, _ := s.Score([][]float64{{9}, {endless}, {nan}})
		if why != api.OK || len(sums) != 3 || sums[0][0] != 100+api.MaxTrees+9 || sums[1][0] != 100+2*api.MaxTrees || sums[2][0] != 100+2*api.MaxTrees {
			t.Errorf("P18.4: MaxTrees in blocks of %d: %v, %d", b, sums, why)
		}
		exits, _, _ := s.Exits([][]float64{{9}})
		if len(exits) != 1 || len(exits[0]) != api.MaxTrees || exits[0][8] != 1 || exits[0][9] != 0 || exits[0][api.MaxTrees-1] != 0 {
			t.Errorf("P18.4: MaxTrees in blocks of %d", b)
		}
		many := (api.MaxTrees + b - 1) / b // a block's scan looks at one more than it passes
		works(t, "P18.4: MaxTrees", s, [][]float64{{-1}}, many)
		works(t, "P18.4: MaxTrees", s, [][]float64{{-1}, {-2}}, many)
		works(t, "P18.4: MaxTrees", s, [][]float64{{-1}, {endless}}, api.MaxTrees)
		works(t, "P18.4: MaxTrees", s, [][]float64{{nan}}, api.MaxTrees)
		works(t, "P18.4: MaxTrees", s, [][]float64{{nan}, {-1}}, api.MaxTrees+many)
	}
}

// Wrong forms make no scorer; the error is that of blocks.Check.
func TestWrongForms(t *testing.T) {
	noScorer := func(what string, f api.Form) {
		t.Helper()
		want, _ := blocks.Check(f)
		if s, why := New(f); s != nil || why != want || why != api.ErrForm {
			t.Errorf("P18.3: %s: New = %v, %d, not %d", what, s, why, want)
		}
	}
	noScorer("nothing", api.Form{})
	for what, change := range map[string]func(f *api.Form){
		"Features": func(f *api.Form) { f.Features = 1 }, "Features below 0": func(f *api.Form) { f.Features = -1 }, "too many Features": func(f *api.Form) { f.Features = api.MaxFeatures + 1 }, "Outputs": func(f *api.Form) { f.Outputs = 2 }, "Base": func(f *api.Form) { f.Base = nil }, "First": func(f *api.Form) { f.Blocks[1].First = 0 },
		"Leaves": func(f *api.Form) { f.Blocks[0].Leaves[0] = 3 }, "Leaves far": func(f *api.Form) { f.Blocks[0].Leaves[0] = math.MaxInt }, "no Leaves": func(f *api.Form) { f.Blocks[0].Leaves = nil }, "Values": func(f *api.Form) { f.Blocks[0].Values[0] = []int64{1} }, "no Values": func(f *api.Form) { f.Blocks[1].Values = nil },
		"outputs": func(f *api.Form) { f.Blocks[1].Outputs[0] = 1 }, "no outputs": func(f *api.Form) { f.Blocks[0].Outputs = nil }, "no lists": func(f *api.Form) { f.Blocks[1].Lists = nil }, "a feature": func(f *api.Form) { f.Blocks[0].Lists[0].Feature = 2 }, "a feature below 0": func(f *api.Form) { f.Blocks[1].Lists[0].Feature = -1 },
		"a tree": func(f *api.Form) { f.Blocks[0].Lists[0].Numbers[0].Tree = 1 }, "From": func(f *api.Form) { f.Blocks[1].Lists[1].Numbers[0].From = -1 }, "To": func(f *api.Form) { f.Blocks[1].Lists[1].Numbers[0].To = 99 }, "NaN": func(f *api.Form) { f.Blocks[1].Lists[1].Numbers[0].Threshold = nan },
		"categories": func(f *api.Form) { f.Blocks[1].Lists[0].Cats[0].Cats = []int{4, 4} }, "Lost": func(f *api.Form) { f.Blocks[0].Lists[0].Lost[0].To = 0 }, "an empty block": func(f *api.Form) { f.Blocks = append(f.Blocks, api.Block{First: 2}) },
	} {
		f := formOf(t, pair(), 1)
		change(&f)
		noScorer(what, f)
	}
	f := formOf(t, pair(), 2)
	n := f.Blocks[0].Lists[1].Numbers
	n[0], n[1] = n[1], n[0]
	noScorer("two Numbers exchanged", f)
}

// descent is what trees say of vectors: the scores, and the leaves' places from left to right.
func descent(t *testing.T, e api.Ensemble, l [][]float64) ([][]int64, [][]int) {
	t.Helper()
	var scores [][]int64
	var exits [][]int
	for _, x := range l {
		sums, why := trees.Score(e, x)
		if why != api.OK {
			t.Fatal(why)
		}
		var leaves []int
		for _, g := range e.Trees {
			i, _, _ := trees.Leaf(g, x)
			leaves = append(leaves, i)
		}
		scores, exits = append(scores, sums), append(exits, leaves)
	}
	return scores, exits
}

// oneByOne is what quick says of vectors.
func oneByOne(t *testing.T, f api.Form, l [][]float64) ([][]int64, [][]int, []int) {
	t.Helper()
	q, why := quick.New(f)
	if why != api.OK {
		t.Fatal(why)
	}
	var scores [][]int64
	var exits [][]int
	var work []int
	for _, x := range l {
		sums, _ := q.Score(x)
		leaves, _ := q.Exits(x)
		n, _ := q.Work(x)
		scores, exits, work = append(scores, sums), append(exits, leaves), append(work, n)
	}
	return scores, exits, work
}

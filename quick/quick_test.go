package quick

import (
	"fmt"
	"math"
	"math/rand/v2"
	"reflect"
	"slices"
	"testing"

	"thicket/api"
	"thicket/blocks"
	"thicket/trees"
)

const (
	left  = api.SideLeft
	right = api.SideRight
)

var (
	nan     = math.NaN()
	endless = math.Inf(1)
	minus0  = math.Copysign(0, -1)
)

func source() *rand.Rand { return rand.New(rand.NewPCG(16, 16)) }

func leafOf(v int64) api.Node { return api.Node{Kind: api.NodeLeaf, Value: v} }

func numberOf(feature int, threshold float64, missing api.Side, l, r int) api.Node {
	return api.Node{Kind: api.NodeNumber, Feature: feature, Threshold: threshold, Missing: missing, Left: l, Right: r}
}

func catsOf(feature int, missing api.Side, l, r int, cats ...int) api.Node {
	return api.Node{Kind: api.NodeCats, Feature: feature, Cats: cats, Missing: missing, Left: l, Right: r}
}

func treeOf(l ...api.Node) api.Tree { return api.Tree{Nodes: l} }

// stump is a tree with one inner node; its leaves say 1 and 2.
func stump(n api.Node) api.Tree {
	n.Left, n.Right = 1, 2
	return treeOf(n, leafOf(1), leafOf(2))
}

// chain is a tree with so many leaves that leans all to one side: a number goes on at each node that has not its very number.
func chain(leaves int, side api.Side) api.Tree {
	var t api.Tree
	for i := range leaves - 1 {
		n := numberOf(0, float64(i), right, 2*i+1, 2*i+2)
		if side == left {
			n = numberOf(0, float64(leaves-2-i), left, 2*i+2, 2*i+1)
		}
		t.Nodes = append(t.Nodes, n, leafOf(int64(i)))
	}
	t.Nodes = append(t.Nodes, leafOf(int64(leaves-1)))
	return t
}

// ensemble has these trees, so many features and an output.
func ensemble(features int, l ...api.Tree) api.Ensemble {
	return api.Ensemble{Name: "m", Features: make([]string, features), Outputs: 1, Base: []int64{100}, Trees: l}
}

// pair is the chapter's ensemble.
func pair() api.Ensemble {
	a := treeOf(numberOf(1, 2, right, 1, 2), leafOf(10), leafOf(20))
	b := treeOf(numberOf(1, 1, left, 1, 4), catsOf(0, right, 2, 3, 4), leafOf(1), leafOf(2), leafOf(3))
	return ensemble(2, a, b)
}

func formOf(t *testing.T, e api.Ensemble, b int) api.Form {
	t.Helper()
	f, why := blocks.Compile(e, b)
	if why != api.OK {
		t.Fatalf("Compile(%v, %d): %d", e, b, why)
	}
	return f
}

// scorer is one of an ensemble in blocks of b trees.
func scorer(t *testing.T, e api.Ensemble, b int) *Scorer {
	t.Helper()
	s, why := New(formOf(t, e, b))
	if why != api.OK || s == nil {
		t.Fatalf("P16.1: New: %v, %d", s, why)
	}
	if s.Features() != len(e.Features) || s.Outputs() != e.Outputs || s.Trees() != len(e.Trees) {
		t.Errorf("P16.1: %d features, %d outputs, %d trees", s.Features(), s.Outputs(), s.Trees())
	}
	return s
}

// says holds a scorer to what it should say of a vector.
func says(t *testing.T, s *Scorer, x []float64, score []int64, exits []int) {
	t.Helper()
	a, why := s.Score(x)
	if why != api.OK || !slices.Equal(a, score) {
		t.Errorf("P16.2: Score(%v) = %v, %d, not %v", x, a, why, score)
	}
	e, why := s.Exits(x)
	if why != api.OK || !slices.Equal(e, exits) {
		t.Errorf("P16.2: Exits(%v) = %v, %d, not %v", x, e, why, exits)
	}
}

// works holds it to how many cuts it looks at.
func works(t *testing.T, s *Scorer, x []float64, want int) {
	t.Helper()
	if n, why := s.Work(x); why != api.OK || n != want {
		t.Errorf("P16.2: Work(%v) = %d, %d, not %d", x, n, why, want)
	}
}

// refused holds all calls to one error of a vector, with which nothing else is told.
func refused(t *testing.T, what string, s *Scorer, x []float64, want api.Errno) {
	t.Helper()
	a, why := s.Score(x)
	e, no := s.Exits(x)
	w, nor := s.Work(x)
	if why != want || no != want || nor != want {
		t.Errorf("P16.2: %s: %d, %d, %d, not %d", what, why, no, nor, want)
	}
	if a != nil || e != nil || w != 0 {
		t.Errorf("P2: %s: %v, %v, %d beside an error", what, a, e, w)
	}
	l, why, at := s.All([][]float64{x})
	if why != want || at != 0 || l != nil {
		t.Errorf("P16.3: %s: All = %v, %d, %d", what, l, why, at)
	}
}

// noScorer holds New to an error.
func noScorer(t *testing.T, what string, f api.Form, want api.Errno) {
	t.Helper()
	if s, why := New(f); s != nil || why != want {
		t.Errorf("P16.1: %s: New = %v, %d, not %d", what, s, why, want)
	}
}

func TestExamples(t *testing.T) {
	s := scorer(t, pair(), 2)
	if s.Features() != 2 || s.Outputs() != 1 || s.Trees() != 2 {
		t.Error("P16.1: example 1:", s.Features(), s.Outputs(), s.Trees())
	}
	says(t, s, []float64{4, 1}, []int64{111}, []int{0, 0})
	works(t, s, []float64{4, 1}, 2)
	says(t, s, []float64{5, 1.5}, []int64{113}, []int{0, 2})
	works(t, s, []float64{5, 1.5}, 3)
	says(t, s, []float64{nan, nan}, []int64{122}, []int{1, 1})
	works(t, s, []float64{nan, nan}, 2)
	says(t, s, []float64{4, endless}, []int64{123}, []int{1, 2})
	refused(t, "example 3", s, []float64{1}, api.ErrVector)
	if l, why, at := s.All([][]float64{{4, 1}, {5, 1.5}}); why != api.OK || at != 0 || !reflect.DeepEqual(l, [][]int64{{111}, {113}}) {
		t.Error("P16.3: example 3:", l, why, at)
	}
	if l, why, at := s.All([][]float64{{4, 1}, {1}}); why != api.ErrVector || at != 1 || l != nil {
		t.Error("P16.3: example 3:", l, why, at)
	}
	for _, none := range [][][]float64{nil, {}} {
		if l, why, at := s.All(none); why != api.OK || at != 0 || len(l) != 0 {
			t.Error("P16.3: example 3:", l, why, at)
		}
	}
	f := formOf(t, pair(), 2)
	n := f.Blocks[0].Lists[1].Numbers
	n[0], n[1] = n[1], n[0]
	noScorer(t, "example 4", f, api.ErrForm)
}

// A nil scorer has nothing, whatever it is asked.
func TestNil(t *testing.T) {
	var s *Scorer
	if s.Features() != 0 || s.Outputs() != 0 || s.Trees() != 0 {
		t.Error("P16.4: a nil scorer:", s.Features(), s.Outputs(), s.Trees())
	}
	for _, x := range [][]float64{nil, {}, {1}, {nan, 2}} {
		refused(t, "a nil scorer", s, x, api.ErrNil)
	}
	for _, l := range [][][]float64{nil, {}, {nil}, {{1}, {1, 2}}} {
		if all, why, at := s.All(l); all != nil || why != api.ErrNil || at != 0 {
			t.Errorf("P16.4: All of a nil scorer: %v, %d, %d", all, why, at)
		}
	}
}

func TestLengths(t *testing.T) {
	for features := range 4 {
		e := ensemble(features, treeOf(leafOf(5)))
		if features > 0 {
			e.Trees = append(e.Trees, stump(numberOf(features-1, 0, left, 0, 0)))
		}
		for _, b := range []int{1, 2} {
			s := scorer(t, e, b)
			for n := range 6 {
				x := make([]float64, n)
				if n != features {
					refused(t, fmt.Sprintf("%d numbers for %d features", n, features), s, x, api.ErrVector)
				} else if _, why := s.Score(x); why != api.OK {
					t.Errorf("P16.2: %d numbers: %d", n, why)
				}
			}
		}
	}
	s := scorer(t, ensemble(0, treeOf(leafOf(5))), 1)
	for _, none := range [][]float64{nil, {}} {
		says(t, s, none, []int64{105}, []int{0})
		works(t, s, none, 0)
	}
	if l, why, at := s.All([][]float64{nil, {}}); why != api.OK || at != 0 || !reflect.DeepEqual(l, [][]int64{{105}, {105}}) {
		t.Error("P16.3: no features:", l, why, at)
	}
	many := scorer(t, ensemble(api.MaxFeatures, stump(numberOf(api.MaxFeatures-1, 0, left, 0, 0))), 1)
	x := make([]float64, api.MaxFeatures)
	x[api.MaxFeatures-1] = 1
	says(t, many, x, []int64{102}, []int{1})
	refused(t, "one too short", many, x[1:], api.ErrVector)
	refused(t, "one too long", many, append(x, 0), api.ErrVector)
}

// Numbers at a node of either kind and either Missing: which side each goes to, as it should be.
func TestNumbersAtNodes(t *testing.T) {
	up := func(v float64) float64 { return math.Nextafter(v, endless) }
	down := func(v float64) float64 { return math.Nextafter(v, -endless) }
	var ofLeft, ofRight []float64
	for _, c := range []struct {
		n       api.Node
		ofLeft  []float64
		ofRight []float64
	}{
		{numberOf(0, 0.5, 0, 0, 0), []float64{0.5, down(0.5), 0, minus0, -1, -endless}, []float64{up(0.5), 1, endless, math.MaxFloat64}},
		{numberOf(0, 0, 0, 0, 0), []float64{0, minus0, -5e-324, -endless}, []float64{5e-324, endless}},
		{numberOf(0, minus0, 0, 0, 0), []float64{0, minus0, -5e-324, -endless}, []float64{5e-324, endless}},
		{numberOf(0, endless, 0, 0, 0), []float64{0, endless, -endless, math.MaxFloat64}, nil},
		{numberOf(0, -endless, 0, 0, 0), []float64{-endless}, []float64{-math.MaxFloat64, 0, endless}},
		{numberOf(0, math.MaxFloat64, 0, 0, 0), []float64{math.MaxFloat64, -endless}, []float64{endless}},
		{catsOf(0, 0, 0, 0, 0), []float64{0, minus0}, []float64{5e-324, -5e-324, 1, -1, endless, -endless}},
		{catsOf(0, 0, 0, 0, 3), []float64{3}, []float64{0, minus0, 2, 4, up(3), down(3), -3, endless, -endless}},
		{catsOf(0, 0, 0, 0, 1, 3, 1023), []float64{1, 3, 1023}, []float64{0, 2, 3.5, 4, 1022, 1024, -1, endless, -endless, math.MaxFloat64}},
	} {
		for _, side := range []api.Side{left, right} {
			c.n.Missing = side
			e := ensemble(1, stump(c.n))
			ofLeft, ofRight = c.ofLeft, c.ofRight
			for _, lost := range []float64{nan, math.Float64frombits(0xfff0000000000001), math.Float64frombits(0x7ff0000000000001)} {
				if side == left {
					ofLeft = append(slices.Clone(ofLeft), lost)
				} else {
					ofRight = append(slices.Clone(ofRight), lost)
				}
			}
			s := scorer(t, e, 1)
			for _, v := range ofLeft {
				says(t, s, []float64{v}, []int64{101}, []int{0})
			}
			for _, v := range ofRight {
				says(t, s, []float64{v}, []int64{102}, []int{1})
			}
		}
	}
}

// Masks of one word, of just one and of more: each leaf is come to, from either side, with trees of other sizes beside it.
func TestWords(t *testing.T) {
	for _, leaves := range []int{2, 3, 62, 63, 64, 65, 66, 127, 128, 129, 192, 193, 1000, api.MaxLeaves} {
		for _, side := range []api.Side{left, right} {
			e := ensemble(1, stump(numberOf(0, 1, right, 0, 0)), chain(leaves, side), treeOf(leafOf(7)), chain(leaves, right), chain(65, left))
			for _, b := range []int{1, 2, 5} {
				s := scorer(t, e, b)
				step := max(1, leaves/150)
				for i := 0; i < leaves; i += step {
					at := min(i, 64)
					stumped := 0
					if i > 1 {
						stumped = 1
					}
					says1(t, s, e, float64(i), []int{stumped, i, 0, i, at})
				}
				says1(t, s, e, endless, []int{1, leaves - 1, 0, leaves - 1, 64})
				lost := leaves - 1
				if side == left {
					lost = 0
				}
				says1(t, s, e, nan, []int{1, lost, 0, leaves - 1, 0})
			}
		}
	}
}

// says1 holds Exits to what they should be, and Score to the sum of these leaves.
func says1(t *testing.T, s *Scorer, e api.Ensemble, v float64, exits []int) {
	t.Helper()
	sum := e.Base[0]
	for i, g := range e.Trees {
		l, _ := trees.Leaves(g)
		sum += g.Nodes[l[exits[i]]].Value
	}
	says(t, s, []float64{v}, []int64{sum}, exits)
}

// Cuts that begin and end within words, at their edges and over several ones.
func TestCutsOfWords(t *testing.T) {
	edges := []int{1, 2, 63, 64, 65, 66, 127, 128, 129, 130, 191, 192, 193}
	for _, from := range append([]int{0}, edges...) {
		for _, to := range edges {
			if to <= from {
				continue
			}
			// Leaves 0 to from - 1, then those of a left subtree, then one more. Feature 0 takes the first ones out one by one, feature 1 that subtree.
			var nodes []api.Node
			for range from {
				at := len(nodes)
				nodes = append(nodes, numberOf(0, 0, left, at+1, at+2), leafOf(-1))
			}
			at := len(nodes)
			sub := comb(to-from, at+1)
			nodes = append(nodes, numberOf(1, 0, left, at+1, at+1+len(sub)))
			nodes = append(append(nodes, sub...), leafOf(3))
			s := scorer(t, ensemble(3, treeOf(nodes...)), 1)
			says(t, s, []float64{1, 1, 0}, []int64{103}, []int{to})
			says(t, s, []float64{1, 0, 0}, []int64{100}, []int{from})
			says(t, s, []float64{1, 0, 1}, []int64{100 + int64(to-from-1)}, []int{to - 1})
			if from > 0 {
				says(t, s, []float64{0, 1, 1}, []int64{99}, []int{0})
			}
		}
	}
}

// comb is nodes of a subtree that begins at a number: so many leaves, which say their places, each node with one of them at its Left; feature 2.
func comb(leaves, at int) []api.Node {
	var l []api.Node
	for i := range leaves - 1 {
		l = append(l, numberOf(2, 0, left, at+len(l)+1, at+len(l)+2), leafOf(int64(i)))
	}
	return append(l, leafOf(int64(leaves-1)))
}

// Sums are modulo 2^64; each output has its own.
func TestSums(t *testing.T) {
	say := func(output int, l, r int64) api.Tree {
		g := treeOf(numberOf(0, 0, right, 1, 2), leafOf(l), leafOf(r))
		g.Output = output
		return g
	}
	e := api.Ensemble{Features: make([]string, 1), Outputs: 3, Base: []int64{math.MaxInt64, math.MinInt64, 5}, Trees: []api.Tree{
		say(1, -1, 1), say(0, 1, -1), say(0, math.MaxInt64, math.MinInt64), say(2, 0, 7), say(1, math.MinInt64, math.MaxInt64), say(2, 1, 7),
	}}
	for b := 1; b < 8; b++ {
		s := scorer(t, e, b)
		says(t, s, []float64{0}, []int64{-1, -1, 6}, []int{0, 0, 0, 0, 0, 0})
		says(t, s, []float64{1}, []int64{-2, 0, 19}, []int{1, 1, 1, 1, 1, 1})
	}
	alone := api.Ensemble{Outputs: api.MaxOutputs, Base: make([]int64, api.MaxOutputs)}
	want := make([]int64, api.MaxOutputs)
	for i := range api.MaxOutputs {
		g := treeOf(leafOf(int64(i + 1)))
		g.Output = (7 * i) % api.MaxOutputs
		want[g.Output] = int64(i + 1)
		alone.Trees = append(alone.Trees, g)
	}
	says(t, scorer(t, alone, 10), nil, want, make([]int, api.MaxOutputs))
}

func TestNoTrees(t *testing.T) {
	e := api.Ensemble{Features: make([]string, 2), Outputs: 2, Base: []int64{4, -9}}
	s := scorer(t, e, 1)
	says(t, s, []float64{1, nan}, []int64{4, -9}, nil)
	works(t, s, []float64{1, nan}, 0)
	refused(t, "no trees", s, []float64{1}, api.ErrVector)
	if l, why, at := s.All([][]float64{{1, 2}, {3, 4}}); why != api.OK || at != 0 || !reflect.DeepEqual(l, [][]int64{{4, -9}, {4, -9}}) {
		t.Error("P16.3: no trees:", l, why, at)
	}
}

func TestMaxTrees(t *testing.T) {
	e := ensemble(1)
	for i := range api.MaxTrees {
		e.Trees = append(e.Trees, stump(numberOf(0, float64(i), right, 0, 0)))
	}
	for _, b := range []int{1, 1000, api.MaxTrees} {
		s := scorer(t, e, b)
		sums, why := s.Score([]float64{9})
		if why != api.OK || len(sums) != 1 || sums[0] != 100+api.MaxTrees+9 {
			t.Errorf("P16.2: MaxTrees in blocks of %d: %v, %d", b, sums, why)
		}
		exits, _ := s.Exits([]float64{9})
		if len(exits) != api.MaxTrees || exits[8] != 1 || exits[9] != 0 || exits[api.MaxTrees-1] != 0 {
			t.Errorf("P16.2: MaxTrees in blocks of %d: %d exits", b, len(exits))
		}
		many := (api.MaxTrees + b - 1) / b // a block's scan looks at one more than it passes
		works(t, s, []float64{-1}, many)
		works(t, s, []float64{endless}, api.MaxTrees)
		works(t, s, []float64{nan}, api.MaxTrees)
	}
}

// All tells the first vector at fault, wherever it stands.
func TestAll(t *testing.T) {
	for _, b := range []int{1, 2} {
		s := scorer(t, pair(), b)
		good := func() []float64 { return []float64{4, 1} }
		for _, wrong := range [][]float64{nil, {}, {1}, {1, 2, 3}} {
			for _, c := range []struct {
				l  [][]float64
				at int
			}{
				{[][]float64{wrong}, 0}, {[][]float64{wrong, good(), good()}, 0}, {[][]float64{good(), wrong, good()}, 1}, {[][]float64{good(), good(), wrong}, 2},
				{[][]float64{wrong, wrong}, 0}, {[][]float64{good(), wrong, {9}}, 1}, {[][]float64{good(), {7, 7, 7}, good(), wrong}, 1}, {[][]float64{{5}, good(), wrong}, 0},
			} {
				if l, why, at := s.All(c.l); why != api.ErrVector || at != c.at || l != nil {
					t.Errorf("P16.3: All(%v) = %v, %d, %d", c.l, l, why, at)
				}
			}
		}
		if l, why, at := s.All([][]float64{{nan, nan}, {4, 1}, {nan, nan}, {4, endless}}); why != api.OK || at != 0 || !reflect.DeepEqual(l, [][]int64{{122}, {111}, {122}, {123}}) {
			t.Error("P16.3:", l, why, at)
		}
	}
}

// Wrong forms make no scorer.
func TestWrongForms(t *testing.T) {
	noScorer(t, "nothing", api.Form{}, api.ErrForm)
	for what, change := range map[string]func(f *api.Form){
		"Features": func(f *api.Form) { f.Features = 1 }, "Features below 0": func(f *api.Form) { f.Features = -1 }, "Outputs": func(f *api.Form) { f.Outputs = 2 }, "Base": func(f *api.Form) { f.Base = nil }, "First": func(f *api.Form) { f.Blocks[1].First = 0 },
		"Leaves": func(f *api.Form) { f.Blocks[0].Leaves[0] = 3 }, "Leaves far": func(f *api.Form) { f.Blocks[0].Leaves[0] = math.MaxInt }, "no Leaves": func(f *api.Form) { f.Blocks[0].Leaves = nil }, "Values": func(f *api.Form) { f.Blocks[0].Values[0] = []int64{1} }, "no Values": func(f *api.Form) { f.Blocks[1].Values = nil },
		"outputs": func(f *api.Form) { f.Blocks[1].Outputs[0] = 1 }, "no outputs": func(f *api.Form) { f.Blocks[0].Outputs = nil }, "no lists": func(f *api.Form) { f.Blocks[1].Lists = nil }, "a feature": func(f *api.Form) { f.Blocks[0].Lists[0].Feature = 2 }, "a feature below 0": func(f *api.Form) { f.Blocks[1].Lists[0].Feature = -1 },
		"a tree": func(f *api.Form) { f.Blocks[0].Lists[0].Numbers[0].Tree = 1 }, "From": func(f *api.Form) { f.Blocks[1].Lists[1].Numbers[0].From = -1 }, "To": func(f *api.Form) { f.Blocks[1].Lists[1].Numbers[0].To = 99 }, "NaN": func(f *api.Form) { f.Blocks[1].Lists[1].Numbers[0].Threshold = nan },
		"categories": func(f *api.Form) { f.Blocks[1].Lists[0].Cats[0].Cats = []int{4, 4} }, "Lost": func(f *api.Form) { f.Blocks[0].Lists[0].Lost[0].To = 0 }, "an empty block": func(f *api.Form) { f.Blocks = append(f.Blocks, api.Block{First: 2}) },
	} {
		f := formOf(t, pair(), 1)
		change(&f)
		noScorer(t, what, f, api.ErrForm)
	}
}

package bins

import (
	"fmt"
	"math"
	"slices"
	"testing"

	"thicket/api"
	"thicket/trees"
)

// isBinned holds a binned ensemble to what it should be, field by field; nil and empty lists are alike.
func isBinned(t *testing.T, what string, m, want api.Binned) {
	t.Helper()
	if fmt.Sprint(m) != fmt.Sprint(want) {
		t.Errorf("P20.3: %s: %v, not %v", what, m, want)
	}
}

// refused holds all that take a binned ensemble to Back's error, whatever else is wrong.
func refused(t *testing.T, what string, m api.Binned, want api.Errno) {
	t.Helper()
	if e, why := Back(m); why != want || fmt.Sprint(e) != fmt.Sprint(api.Ensemble{}) {
		t.Errorf("P20.3: %s: Back = %v, %d, not %d", what, e, why, want)
	}
	for _, l := range [][]api.Code{nil, {missing()}, {missing(), missing()}, {known(0, -1), known(0, -1)}, {known(9, 9), known(9, 9)}} {
		if s, why := Score(m, l); why != want || s != nil {
			t.Errorf("P20.4: %s: Score = %v, %d, not %d", what, s, why, want)
		}
	}
	for _, x := range [][]float64{nil, {1}, {1, 2}} {
		if s, why := Run(m, x); why != want || s != nil {
			t.Errorf("P20.4: %s: Run = %v, %d, not %d", what, s, why, want)
		}
	}
}

// says holds a binned ensemble to its score of a vector, by Run and by Score of the vector's codes.
func says(t *testing.T, what string, m api.Binned, x []float64, want ...int64) {
	t.Helper()
	if s, why := Run(m, x); why != api.OK || !slices.Equal(s, want) {
		t.Errorf("P20.4: %s: Run(.., %v) = %v, %d, not %v", what, x, s, why, want)
	}
	l, why := Codes(m.Bins, x)
	if why != api.OK {
		t.Errorf("P20.2: %s: Codes: %d", what, why)
	}
	saysOf(t, what, m, l, want...)
}

func saysOf(t *testing.T, what string, m api.Binned, l []api.Code, want ...int64) {
	t.Helper()
	if s, why := Score(m, l); why != api.OK || !slices.Equal(s, want) {
		t.Errorf("P20.4: %s: Score(.., %v) = %v, %d, not %v", what, l, s, why, want)
	}
}

// plain is an ensemble as Back has it: other names, and 0 for -0.
func plain(e api.Ensemble) api.Ensemble {
	e = trees.Copy(e)
	e.Name = "binned"
	for i := range e.Features {
		e.Features[i] = fmt.Sprint("f", i)
	}
	for _, g := range e.Trees {
		for i := range g.Nodes {
			g.Nodes[i].Threshold += 0 // of -0 that is 0
		}
	}
	return e
}

// comesBack holds Back of a binned ensemble to the ensemble.
func comesBack(t *testing.T, what string, m api.Binned, e api.Ensemble) {
	t.Helper()
	if back, why := Back(m); why != api.OK || !trees.Same(back, plain(e)) {
		t.Errorf("P20.9: %s: %v, %d, not %v", what, back, why, plain(e))
	}
}

func TestCompile(t *testing.T) {
	// Nodes keep their numbers, whatever these are; a threshold's place is that among those of all trees.
	a := api.Tree{Output: 1, Nodes: []api.Node{numberOf(0, 3, right, 4, 1), catsOf(1, left, 3, 2, 5, 9), leafOf(-1), leafOf(7), leafOf(0)}}
	b := treeOf(numberOf(0, minus0, left, 1, 2), leafOf(1), numberOf(0, endless, right, 3, 4), leafOf(2), catsOf(1, right, 5, 6, 0, 9), leafOf(3), leafOf(4))
	e := ensemble(3, a, b, treeOf(leafOf(6)))
	e.Outputs, e.Base = 2, []int64{0, -5}
	m := binned(t, e)
	isBinned(t, "two trees", m, api.Binned{
		Bins: api.Bins{Cuts: [][]float64{{0, 3, endless}, nil, nil}, Cats: [][]int{nil, {0, 5, 9}, nil}}, Outputs: 2, Base: []int64{0, -5},
		Trees: []api.BinTree{
			{Output: 1, Nodes: []api.BinNode{{Kind: api.NodeNumber, Rank: 1, Missing: right, Left: 4, Right: 1}, {Kind: api.NodeCats, Feature: 1, Cats: []int{1, 2}, Missing: left, Left: 3, Right: 2}, {Kind: api.NodeLeaf, Value: -1}, {Kind: api.NodeLeaf, Value: 7}, {Kind: api.NodeLeaf}}},
			{Nodes: []api.BinNode{{Kind: api.NodeNumber, Missing: left, Left: 1, Right: 2}, {Kind: api.NodeLeaf, Value: 1}, {Kind: api.NodeNumber, Rank: 2, Missing: right, Left: 3, Right: 4}, {Kind: api.NodeLeaf, Value: 2}, {Kind: api.NodeCats, Feature: 1, Cats: []int{0, 2}, Missing: right, Left: 5, Right: 6}, {Kind: api.NodeLeaf, Value: 3}, {Kind: api.NodeLeaf, Value: 4}}},
			{Nodes: []api.BinNode{{Kind: api.NodeLeaf, Value: 6}}},
		},
	})
	comesBack(t, "two trees", m, e)
	for x, want := range map[[3]float64][]int64{
		{0, 0, 0}: {7, -5}, {minus0, 0, nan}: {7, -5}, {5e-324, 9, 0}: {8, -5}, {4, 5, 0}: {8, 2}, {4, 0, 0}: {8, -6}, {endless, nan, 0}: {8, 2}, {nan, nan, nan}: {7, 2}, {-endless, 1, 0}: {7, -5},
	} {
		says(t, "two trees", m, x[:], want...)
	}
	for what, e := range map[string]api.Ensemble{"no trees": ensemble(2), "one leaf": ensemble(1, treeOf(leafOf(5))), "the chapter's": pair()} {
		m := binned(t, e)
		comesBack(t, what, m, e)
		x := make([]float64, len(e.Features))
		want, _ := trees.Score(e, x)
		says(t, what, m, x, want...)
	}
}

// flaws are ways to break the chapter's binned ensemble.
func flaws() []struct {
	what string
	why  api.Errno
	do   func(m *api.Binned)
} {
	type flaw = struct {
		what string
		why  api.Errno
		do   func(m *api.Binned)
	}
	node := func(m *api.Binned, tree, i int) *api.BinNode { return &m.Trees[tree].Nodes[i] }
	l := []flaw{
		{"no bins", api.ErrBins, func(m *api.Binned) { m.Bins = api.Bins{} }},
		{"bins that fall", api.ErrBins, func(m *api.Binned) { m.Bins.Cuts[1] = []float64{2, 1} }},
		{"a bin of -0", api.ErrBins, func(m *api.Binned) { m.Bins.Cuts[0] = []float64{minus0} }},
		{"bins of one feature too few", api.ErrBins, func(m *api.Binned) { m.Bins.Cats = m.Bins.Cats[:1] }},
		{"a category too great", api.ErrBins, func(m *api.Binned) { m.Bins.Cats[0] = []int{1024} }},
		{"one feature less", api.ErrBins, func(m *api.Binned) { m.Bins.Cuts, m.Bins.Cats = m.Bins.Cuts[:1], m.Bins.Cats[:1] }},
		{"a leaf's rank", api.ErrBins, func(m *api.Binned) { node(m, 1, 4).Rank = 1 }},
		{"a leaf's rank below 0", api.ErrBins, func(m *api.Binned) { node(m, 0, 2).Rank = -1 }},
		{"a rank of categories", api.ErrBins, func(m *api.Binned) { node(m, 1, 1).Rank = 1 }},
		{"no cuts for a rank of 0", api.ErrBins, func(m *api.Binned) { m.Bins.Cuts[1] = nil }},
		{"no categories for a place of 0", api.ErrBins, func(m *api.Binned) { m.Bins.Cats[0] = nil }},
		{"a rank of no kind", api.ErrBins, func(m *api.Binned) { node(m, 0, 1).Kind, node(m, 0, 1).Rank = 0, 1 }},
		{"a rank of a kind beyond", api.ErrBins, func(m *api.Binned) { node(m, 0, 1).Kind, node(m, 0, 1).Rank = api.NodeCount, 1 }},

		{"no outputs", api.ErrModel, func(m *api.Binned) { m.Outputs = 0 }},
		{"too many outputs", api.ErrModel, func(m *api.Binned) { m.Outputs, m.Base = api.MaxOutputs+1, make([]int64, api.MaxOutputs+1) }},
		{"no base", api.ErrModel, func(m *api.Binned) { m.Base = nil }},
		{"too much base", api.ErrModel, func(m *api.Binned) { m.Base = []int64{1, 2} }},
		{"a sum", api.ErrModel, func(m *api.Binned) { m.Base = []int64{api.MaxSum} }},
		{"a tree without a node", api.ErrModel, func(m *api.Binned) { m.Trees = append(m.Trees, api.BinTree{}) }},
		{"an output", api.ErrModel, func(m *api.Binned) { m.Trees[1].Output = 1 }},
		{"no kind", api.ErrModel, func(m *api.Binned) { node(m, 0, 1).Kind = 0 }},
		{"a kind beyond", api.ErrModel, func(m *api.Binned) { node(m, 0, 1).Kind = api.NodeCount }},
		{"a number's value", api.ErrModel, func(m *api.Binned) { node(m, 1, 0).Value = 1 }},
		{"a number's categories", api.ErrModel, func(m *api.Binned) { node(m, 1, 0).Cats = []int{0} }},
		{"a number's categories that are no places", api.ErrModel, func(m *api.Binned) { node(m, 1, 0).Cats = []int{-7, 99} }},
		{"a value of categories", api.ErrModel, func(m *api.Binned) { node(m, 1, 1).Value = 1 }},
		{"a leaf's categories", api.ErrModel, func(m *api.Binned) { node(m, 1, 2).Cats = []int{-9} }},
		{"a leaf's feature", api.ErrModel, func(m *api.Binned) { node(m, 1, 2).Feature = 1 }},
		{"a leaf's feature that is none", api.ErrModel, func(m *api.Binned) { node(m, 1, 2).Feature = 9 }},
		{"a leaf's missing", api.ErrModel, func(m *api.Binned) { node(m, 1, 2).Missing = left }},
		{"a leaf's left", api.ErrModel, func(m *api.Binned) { node(m, 1, 2).Left = 1 }},
		{"a leaf's right", api.ErrModel, func(m *api.Binned) { node(m, 1, 2).Right = 1 }},
		{"no categories", api.ErrModel, func(m *api.Binned) { node(m, 1, 1).Cats = nil }},
		{"categories twice", api.ErrModel, func(m *api.Binned) { node(m, 1, 1).Cats = []int{0, 0} }},
		{"no side", api.ErrModel, func(m *api.Binned) { node(m, 1, 1).Missing = 0 }},
		{"a side beyond", api.ErrModel, func(m *api.Binned) { node(m, 0, 0).Missing = 3 }},
		{"a left beyond", api.ErrModel, func(m *api.Binned) { node(m, 0, 0).Left = 3 }},
		{"a right of 0", api.ErrModel, func(m *api.Binned) { node(m, 0, 0).Right = 0 }},
		{"a loose node", api.ErrModel, func(m *api.Binned) { m.Trees[0].Nodes = append(m.Trees[0].Nodes, api.BinNode{Kind: api.NodeLeaf}) }},
		{"a node below two", api.ErrModel, func(m *api.Binned) { node(m, 0, 0).Left = 2 }},
		{"a number for a leaf", api.ErrModel, func(m *api.Binned) { *node(m, 0, 2) = api.BinNode{Kind: api.NodeNumber, Feature: 1} }},
		{"a number for a leaf, of no cuts", api.ErrBins, func(m *api.Binned) { *node(m, 0, 2) = api.BinNode{Kind: api.NodeNumber} }},
	}
	for _, v := range []int{-1, 2, math.MinInt, math.MaxInt} {
		l = append(l, flaw{fmt.Sprint("a rank of ", v), api.ErrBins, func(m *api.Binned) { node(m, 0, 0).Rank = v }})
		l = append(l, flaw{fmt.Sprint("a number's feature of ", v), api.ErrBins, func(m *api.Binned) { node(m, 1, 0).Feature = v }})
		l = append(l, flaw{fmt.Sprint("a feature of categories of ", v), api.ErrBins, func(m *api.Binned) { node(m, 1, 1).Feature = v }})
	}
	for _, v := range []int{-1, 1, math.MinInt, math.MaxInt} {
		l = append(l, flaw{fmt.Sprint("a place of ", v), api.ErrBins, func(m *api.Binned) { node(m, 1, 1).Cats = []int{v} }})
		l = append(l, flaw{fmt.Sprint("a second place of ", v), api.ErrBins, func(m *api.Binned) { node(m, 1, 1).Cats = []int{0, v} }})
	}
	return l
}

// Each fault alone, and each two at once: ErrBins comes ahead of ErrModel, wherever both stand.
func TestFlaws(t *testing.T) {
	undone := 0
	for i, one := range flaws() {
		m := binned(t, pair())
		one.do(&m)
		refused(t, one.what, m, one.why)
		m = binned(t, ensemble(2, append(pair().Trees, pair().Trees...)...))
		one.do(&m)
		refused(t, one.what+", ahead of right trees", m, one.why)
		for k, other := range flaws()[:i] {
			m := binned(t, pair())
			if !both(&m, one.do, other.do) {
				continue
			}
			want := api.ErrModel
			if one.why == api.ErrBins || other.why == api.ErrBins {
				want = api.ErrBins
			}
			if _, why := backByWords(m); why != want {
				want = why // the one undid the other
				undone++
			}
			refused(t, fmt.Sprintf("%d: %s and %d: %s", i, one.what, k, other.what), m, want)
			if t.Failed() {
				return
			}
		}
	}
	if undone > 60 {
		t.Error("of the pairs", undone, "have not the error of the two")
	}
}

// both does two things, where the one leaves room for the other.
func both(m *api.Binned, do ...func(m *api.Binned)) (ok bool) {
	defer func() { ok = recover() == nil }()
	for _, one := range do {
		one(m)
	}
	return true
}

func TestScoreRefused(t *testing.T) {
	m := binned(t, pair())
	fine := []api.Code{known(0, -1), known(0, -1)}
	saysOf(t, "right codes", m, fine, 112)
	for _, l := range [][]api.Code{nil, {}, {missing()}, {known(0, -1)}, {missing(), missing(), missing()}, {known(9, 9)}, {known(9, 9), known(9, 9), known(9, 9)}, make([]api.Code, 100)} {
		if s, why := Score(m, l); why != api.ErrVector || s != nil {
			t.Errorf("P20.4: %d codes: %v, %d", len(l), s, why)
		}
	}
	for at := range 2 {
		for _, c := range []api.Code{
			{Bin: 1, Cat: -1, Lost: true}, {Bin: 0, Cat: 0, Lost: true}, {Lost: true}, {Bin: 0, Cat: -2, Lost: true}, {Bin: -1, Cat: -1, Lost: true},
			known(3, -1), known(-1, -1), known(0, -2), known(0, 1), known(math.MaxInt, 0), known(0, math.MinInt),
		} {
			l := slices.Clone(fine)
			l[at] = c
			if s, why := Score(m, l); why != api.ErrBins || s != nil {
				t.Errorf("P20.4: a code %v at %d: %v, %d", c, at, s, why)
			}
		}
	}
	if s, why := Score(m, []api.Code{known(1, -1), known(0, -1)}); why != api.ErrBins || s != nil {
		t.Error("P20.4: a Bin one too great:", s, why)
	}
	if s, why := Score(m, []api.Code{known(0, -1), known(0, 0)}); why != api.ErrBins || s != nil {
		t.Error("P20.4: a Cat one too great:", s, why)
	}
	for _, x := range [][]float64{nil, {}, {1}, {1, 2, 3}, make([]float64, 100)} {
		if s, why := Run(m, x); why != api.ErrVector || s != nil {
			t.Errorf("P20.4: a vector of %d: %v, %d", len(x), s, why)
		}
	}
}

// Score of each right code, whether a number has it or not.
func TestScore(t *testing.T) {
	m := binned(t, pair())
	for cat := -1; cat <= 0; cat++ {
		for bin := range 3 {
			want := int64(100)
			if bin <= 1 {
				want += 10
			} else {
				want += 20
			}
			switch {
			case bin > 0:
				want += 3
			case cat == 0:
				want++
			default:
				want += 2
			}
			saysOf(t, "each code", m, []api.Code{known(0, cat), known(bin, -1)}, want)
		}
	}
	saysOf(t, "lost", m, []api.Code{missing(), missing()}, 122)
	saysOf(t, "lost", m, []api.Code{known(0, 0), missing()}, 121)
	saysOf(t, "lost", m, []api.Code{missing(), known(0, -1)}, 112)
	// A number's bin and its category are looked at by themselves, even if no number has both.
	n := binned(t, ensemble(1, stump(numberOf(0, 5, left, 0, 0)), treeOf(catsOf(0, left, 1, 2, 3, 7), leafOf(10), leafOf(20))))
	saysOf(t, "no number's", n, []api.Code{known(1, 0)}, 112)
	saysOf(t, "no number's", n, []api.Code{known(0, 1)}, 111)
	saysOf(t, "a number's", n, []api.Code{known(0, 0)}, 111)
	saysOf(t, "a number's", n, []api.Code{known(1, -1)}, 122)
	saysOf(t, "lost", n, []api.Code{missing()}, 111)
}

// The limits: as many features, trees, leaves, outputs and categories as may be, and a room of MaxSum - 1.
func TestLimits(t *testing.T) {
	all := make([]int, api.MaxCats)
	for i := range all {
		all[i] = i
	}
	e := ensemble(api.MaxFeatures, stump(catsOf(api.MaxFeatures-1, right, 0, 0, all...)), stump(numberOf(api.MaxFeatures-2, 1, left, 0, 0)))
	m := binned(t, e)
	comesBack(t, "MaxFeatures", m, e)
	x := make([]float64, api.MaxFeatures)
	says(t, "MaxFeatures", m, x, 102)
	x[api.MaxFeatures-1], x[api.MaxFeatures-2] = 1024, 2
	says(t, "MaxFeatures", m, x, 104)
	x[api.MaxFeatures-1] = 1023
	says(t, "MaxFeatures", m, x, 103)
	m.Bins.Cuts, m.Bins.Cats = append(m.Bins.Cuts, nil), append(m.Bins.Cats, nil)
	refused(t, "one feature more", m, api.ErrBins)

	many := slices.Repeat([]api.Tree{stump(numberOf(1, 0.5, left, 0, 0))}, api.MaxTrees)
	e = ensemble(2, many...)
	m = binned(t, e)
	says(t, "MaxTrees", m, []float64{0, 0}, 100+api.MaxTrees)
	comesBack(t, "MaxTrees", m, e)
	m.Trees = append(m.Trees, m.Trees[0])
	refused(t, "one tree more", m, api.ErrModel)

	var chain api.Tree
	for i := range api.MaxLeaves - 1 {
		chain.Nodes = append(chain.Nodes, numberOf(0, float64(i), right, 2*i+1, 2*i+2), leafOf(int64(i)))
	}
	chain.Nodes = append(chain.Nodes, leafOf(-1))
	e = ensemble(1, chain)
	m = binned(t, e)
	comesBack(t, "MaxLeaves", m, e)
	for i := range api.MaxLeaves - 1 {
		if m.Trees[0].Nodes[2*i].Rank != i {
			t.Fatalf("P20.3: rank %d: %d", i, m.Trees[0].Nodes[2*i].Rank)
		}
	}
	says(t, "MaxLeaves", m, []float64{0}, 100)
	says(t, "MaxLeaves", m, []float64{17.5}, 118)
	says(t, "MaxLeaves", m, []float64{nan}, 99)
	says(t, "MaxLeaves", m, []float64{endless}, 99)

	e = ensemble(1, api.Tree{Output: api.MaxOutputs - 1, Nodes: stump(numberOf(0, 1, left, 0, 0)).Nodes})
	e.Outputs, e.Base = api.MaxOutputs, make([]int64, api.MaxOutputs)
	m = binned(t, e)
	comesBack(t, "MaxOutputs", m, e)
	says(t, "MaxOutputs", m, []float64{1}, append(make([]int64, api.MaxOutputs-1), 1)...)

	e = ensemble(1, stump(numberOf(0, 1, left, 0, 0)))
	e.Base[0] = api.MaxSum - 3
	m = binned(t, e)
	says(t, "MaxSum", m, []float64{2}, api.MaxSum-1)
	m.Base[0]++
	refused(t, "MaxSum", m, api.ErrModel)
}

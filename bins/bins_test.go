package bins

import (
	"fmt"
	"math"
	"math/rand/v2"
	"slices"
	"testing"

	"thicket/api"
)

const (
	left  = api.SideLeft
	right = api.SideRight
)

var (
	nan     = math.NaN()
	endless = math.Inf(1)
	minus0  = math.Copysign(0, -1)
)

func source() *rand.Rand { return rand.New(rand.NewPCG(20, 20)) }

func leafOf(v int64) api.Node { return api.Node{Kind: api.NodeLeaf, Value: v} }

func numberOf(feature int, threshold float64, missing api.Side, l, r int) api.Node {
	return api.Node{Kind: api.NodeNumber, Feature: feature, Threshold: threshold, Missing: missing, Left: l, Right: r}
}

func catsOf(feature int, missing api.Side, l, r int, cats ...int) api.Node {
	return api.Node{Kind: api.NodeCats, Feature: feature, Cats: cats, Missing: missing, Left: l, Right: r}
}

func treeOf(l ...api.Node) api.Tree { return api.Tree{Nodes: l} }

// stump is a tree with one inner node; its leaves say 1 and 2.
func stump(n api.Node) api.Tree {
	n.Left, n.Right = 1, 2
	return treeOf(n, leafOf(1), leafOf(2))
}

// ensemble has these trees, so many features and an output.
func ensemble(features int, l ...api.Tree) api.Ensemble {
	e := api.Ensemble{Name: "m", Outputs: 1, Base: []int64{100}, Trees: l}
	for i := range features {
		e.Features = append(e.Features, fmt.Sprint("x", i))
	}
	return e
}

// pair is the chapter's ensemble.
func pair() api.Ensemble {
	a := treeOf(numberOf(1, 2, right, 1, 2), leafOf(10), leafOf(20))
	b := treeOf(numberOf(1, 1, left, 1, 4), catsOf(0, right, 2, 3, 4), leafOf(1), leafOf(2), leafOf(3))
	return ensemble(2, a, b)
}

func binsOf(t *testing.T, e api.Ensemble) api.Bins {
	t.Helper()
	b, why := Of(e)
	if why != api.OK {
		t.Fatalf("P20.1: Of(%v): %d", e, why)
	}
	return b
}

func binned(t *testing.T, e api.Ensemble) api.Binned {
	t.Helper()
	m, why := Compile(e)
	if why != api.OK {
		t.Fatalf("P20.3: Compile(%v): %d", e, why)
	}
	return m
}

func known(bin, cat int) api.Code { return api.Code{Bin: bin, Cat: cat} }

func missing() api.Code { return api.Code{Cat: -1, Lost: true} }

// one are the bins of one feature.
func one(cuts []float64, cats []int) api.Bins {
	return api.Bins{Cuts: [][]float64{cuts}, Cats: [][]int{cats}}
}

// isOf holds Of to what it should be, thresholds bit for bit.
func isOf(t *testing.T, what string, e api.Ensemble, want api.Bins) {
	t.Helper()
	b, why := Of(e)
	same := len(b.Cuts) == len(want.Cuts) && len(b.Cats) == len(want.Cats)
	for i := 0; same && i < len(b.Cuts); i++ {
		same = equal(b.Cuts[i], want.Cuts[i]) && slices.Equal(b.Cats[i], want.Cats[i])
	}
	if why != api.OK || !same || !Right(b) {
		t.Errorf("P20.1: %s: %v, %d, not %v", what, b, why, want)
	}
}

// equal tells whether numbers are the same bit for bit.
func equal(a, b []float64) bool {
	return slices.EqualFunc(a, b, func(x, y float64) bool { return math.Float64bits(x) == math.Float64bits(y) })
}

// hasCodes holds Codes to what they should be.
func hasCodes(t *testing.T, what string, b api.Bins, x []float64, want ...api.Code) {
	t.Helper()
	if l, why := Codes(b, x); why != api.OK || !slices.Equal(l, want) {
		t.Errorf("P20.2: %s: Codes(%v, %v) = %v, %d, not %v", what, b, x, l, why, want)
	}
}

func noCodes(t *testing.T, what string, b api.Bins, x []float64, want api.Errno) {
	t.Helper()
	if l, why := Codes(b, x); why != want || l != nil {
		t.Errorf("P20.2: %s: Codes(.., %v) = %v, %d, not %d", what, x, l, why, want)
	}
}

// hasPoint holds Point to a number, bit for bit.
func hasPoint(t *testing.T, what string, b api.Bins, feature int, c api.Code, want float64) {
	t.Helper()
	v, why := Point(b, feature, c)
	if why != api.OK || math.Float64bits(v) != math.Float64bits(want) && !(math.IsNaN(v) && math.IsNaN(want)) {
		t.Errorf("P20.2: %s: Point(%v, %d, %v) = %v, %d, not %v", what, b, feature, c, v, why, want)
	}
}

func noPoint(t *testing.T, what string, b api.Bins, feature int, c api.Code, want api.Errno) {
	t.Helper()
	if v, why := Point(b, feature, c); why != want || math.Float64bits(v) != 0 {
		t.Errorf("P20.2: %s: Point(%v, %d, %v) = %v, %d, not %d", what, b, feature, c, v, why, want)
	}
}

func TestExamples(t *testing.T) {
	isOf(t, "example 1", pair(), api.Bins{Cuts: [][]float64{nil, {1, 2}}, Cats: [][]int{{4}, nil}})
	b := binsOf(t, pair())
	hasCodes(t, "example 1", b, []float64{4, 1}, known(0, 0), known(0, -1))
	hasCodes(t, "example 1", b, []float64{4.5, 1.5}, known(0, -1), known(1, -1))
	hasCodes(t, "example 1", b, []float64{nan, 3}, missing(), known(2, -1))
	hasPoint(t, "example 2", b, 1, known(1, -1), 2)
	hasPoint(t, "example 2", b, 1, known(0, -1), 1)
	hasPoint(t, "example 2", b, 1, known(2, -1), math.Nextafter(2, 3))
	hasPoint(t, "example 2", b, 0, known(0, 0), 4)
	hasPoint(t, "example 2", b, 0, known(0, -1), 0)
	noPoint(t, "example 2", b, 1, known(3, -1), api.ErrBins)
	m := binned(t, pair())
	isBinned(t, "example 3", m, api.Binned{Bins: b, Outputs: 1, Base: []int64{100}, Trees: []api.BinTree{
		{Nodes: []api.BinNode{{Kind: api.NodeNumber, Feature: 1, Rank: 1, Missing: right, Left: 1, Right: 2}, {Kind: api.NodeLeaf, Value: 10}, {Kind: api.NodeLeaf, Value: 20}}},
		{Nodes: []api.BinNode{{Kind: api.NodeNumber, Feature: 1, Missing: left, Left: 1, Right: 4}, {Kind: api.NodeCats, Cats: []int{0}, Missing: right, Left: 2, Right: 3}, {Kind: api.NodeLeaf, Value: 1}, {Kind: api.NodeLeaf, Value: 2}, {Kind: api.NodeLeaf, Value: 3}}},
	}})
	says(t, "example 3", m, []float64{5, 1.5}, 113)
	m.Trees[0].Nodes[0].Rank = 2
	refused(t, "example 4", m, api.ErrBins)
	e := pair()
	e.Name = ""
	notTaken(t, "example 4", e)
}

// notTaken holds Of and Compile to ErrModel.
func notTaken(t *testing.T, what string, e api.Ensemble) {
	t.Helper()
	if b, why := Of(e); why != api.ErrModel || b.Cuts != nil || b.Cats != nil {
		t.Errorf("P20.1: %s: Of = %v, %d", what, b, why)
	}
	if m, why := Compile(e); why != api.ErrModel || fmt.Sprint(m) != fmt.Sprint(api.Binned{}) {
		t.Errorf("P20.3: %s: Compile = %v, %d", what, m, why)
	}
}

// Each rule, broken.
func TestNotRight(t *testing.T) {
	for what, do := range map[string]func(e *api.Ensemble){
		"a name":           func(e *api.Ensemble) { e.Name = "?" },
		"no features":      func(e *api.Ensemble) { e.Features = nil },
		"a feature":        func(e *api.Ensemble) { e.Features[1] = "" },
		"a feature twice":  func(e *api.Ensemble) { e.Features[1] = "x0" },
		"outputs":          func(e *api.Ensemble) { e.Outputs = 0 },
		"base":             func(e *api.Ensemble) { e.Base = nil },
		"an output":        func(e *api.Ensemble) { e.Trees[1].Output = 1 },
		"no node":          func(e *api.Ensemble) { e.Trees[0].Nodes = nil },
		"a kind":           func(e *api.Ensemble) { e.Trees[0].Nodes[1].Kind = 0 },
		"a field":          func(e *api.Ensemble) { e.Trees[0].Nodes[1].Threshold = minus0 },
		"a split":          func(e *api.Ensemble) { e.Trees[0].Nodes[0].Feature = 2 },
		"a split below 0":  func(e *api.Ensemble) { e.Trees[0].Nodes[0].Feature = -1 },
		"a threshold":      func(e *api.Ensemble) { e.Trees[0].Nodes[0].Threshold = nan },
		"categories":       func(e *api.Ensemble) { e.Trees[1].Nodes[1].Cats = nil },
		"a category":       func(e *api.Ensemble) { e.Trees[1].Nodes[1].Cats = []int{api.MaxCats} },
		"missing":          func(e *api.Ensemble) { e.Trees[0].Nodes[0].Missing = 0 },
		"a node below":     func(e *api.Ensemble) { e.Trees[0].Nodes[0].Left = 3 },
		"no tree":          func(e *api.Ensemble) { e.Trees[0].Nodes[0].Left = 2 },
		"a sum":            func(e *api.Ensemble) { e.Base[0] = api.MaxSum },
		"too many trees":   func(e *api.Ensemble) { e.Trees = slices.Repeat([]api.Tree{treeOf(leafOf(0))}, api.MaxTrees+1) },
		"too many outputs": func(e *api.Ensemble) { e.Outputs, e.Base = api.MaxOutputs+1, make([]int64, api.MaxOutputs+1) },
	} {
		e := pair()
		do(&e)
		notTaken(t, what, e)
	}
	notTaken(t, "too many features", ensemble(api.MaxFeatures+1))
	notTaken(t, "nothing", api.Ensemble{})
}

func TestOf(t *testing.T) {
	isOf(t, "no trees", ensemble(3), api.Bins{Cuts: make([][]float64, 3), Cats: make([][]int, 3)})
	isOf(t, "leaves", ensemble(1, treeOf(leafOf(1))), one(nil, nil))
	isOf(t, "features that no tree asks for", ensemble(5, stump(numberOf(3, 7, left, 0, 0)), stump(catsOf(1, left, 0, 0, 2, 9))), api.Bins{Cuts: [][]float64{nil, nil, nil, {7}, nil}, Cats: [][]int{nil, {2, 9}, nil, nil, nil}})
	var l []api.Tree
	for _, v := range []float64{endless, 1, minus0, -endless, 5e-324, 1, 0, -5e-324, minus0, endless, math.Nextafter(1, 2)} {
		l = append(l, stump(numberOf(0, v, left, 0, 0)))
	}
	isOf(t, "noughts and infinities", ensemble(1, l...), one([]float64{-endless, -5e-324, 0, 5e-324, 1, math.Nextafter(1, 2), endless}, nil))
	isOf(t, "-0", ensemble(1, l[2]), one([]float64{0}, nil))
	isOf(t, "categories of several nodes", ensemble(1, stump(catsOf(0, left, 0, 0, 3, 1023)), l[1], stump(catsOf(0, left, 0, 0, 0, 3, 4))), one([]float64{1}, []int{0, 3, 4, 1023}))
	// The limit of features, each with a threshold of its own: nothing is gone through again and again.
	l = nil
	for i := range api.MaxFeatures {
		n := numberOf(i, float64(i), left, 0, 0)
		if i%3 == 0 {
			n = catsOf(i, left, 0, 0, i%1000)
		}
		l = append(l, stump(n))
	}
	b := binsOf(t, ensemble(api.MaxFeatures, l...))
	for i := range api.MaxFeatures {
		if cat := i%3 == 0; cat && (len(b.Cuts[i]) != 0 || !slices.Equal(b.Cats[i], []int{i % 1000})) || !cat && (len(b.Cats[i]) != 0 || !equal(b.Cuts[i], []float64{float64(i)})) {
			t.Fatalf("P20.1: MaxFeatures: feature %d: %v, %v", i, b.Cuts[i], b.Cats[i])
		}
	}
	if len(b.Cuts) != api.MaxFeatures || len(b.Cats) != api.MaxFeatures || !Right(b) {
		t.Error("P20.1: MaxFeatures:", len(b.Cuts), len(b.Cats))
	}
}

func TestRight(t *testing.T) {
	up, down := math.Nextafter(1, 2), math.Nextafter(1, 0)
	for _, b := range []api.Bins{
		one(nil, nil), one([]float64{}, []int{}), one([]float64{0}, nil), one([]float64{-endless, endless}, []int{0}), one([]float64{-1, 0, 5e-324}, []int{0, 1, 1023}), one([]float64{down, 1, up}, []int{1023}),
		{Cuts: make([][]float64, api.MaxFeatures), Cats: make([][]int, api.MaxFeatures)},
	} {
		if !Right(b) {
			t.Errorf("P20.1: %v is not right", b)
		}
		x := slices.Repeat([]float64{nan}, len(b.Cuts))
		hasCodes(t, "right", b, x, slices.Repeat([]api.Code{missing()}, len(x))...)
	}
	for _, b := range []api.Bins{
		{}, {Cuts: [][]float64{}, Cats: [][]int{}}, {Cuts: [][]float64{nil}}, {Cats: [][]int{nil}}, {Cuts: [][]float64{nil, nil}, Cats: [][]int{nil}}, {Cuts: [][]float64{nil}, Cats: [][]int{nil, nil}},
		{Cuts: make([][]float64, api.MaxFeatures+1), Cats: make([][]int, api.MaxFeatures+1)}, {Cuts: make([][]float64, api.MaxFeatures), Cats: make([][]int, api.MaxFeatures+1)}, {Cuts: make([][]float64, api.MaxFeatures+1), Cats: make([][]int, api.MaxFeatures)},
		one([]float64{1, 1}, nil), one([]float64{2, 1}, nil), one([]float64{1, 3, 2}, nil), one([]float64{1, 2, 2}, nil), one([]float64{nan}, nil), one([]float64{1, nan}, nil), one([]float64{nan, 1}, nil), one([]float64{minus0}, nil), one([]float64{-1, minus0, 1}, nil),
		one([]float64{minus0, 0}, nil), one([]float64{0, minus0}, nil), one([]float64{endless, endless}, nil), one([]float64{endless, -endless}, nil), one([]float64{up, 1}, nil), one([]float64{math.Float64frombits(0xfff8000000000000)}, nil),
		one(nil, []int{1, 1}), one(nil, []int{2, 1}), one(nil, []int{1, 3, 2}), one(nil, []int{-1}), one(nil, []int{-1, 0}), one(nil, []int{1024}), one(nil, []int{1023, 1024}), one(nil, []int{math.MinInt}), one(nil, []int{math.MaxInt}),
	} {
		if Right(b) {
			t.Errorf("P20.1: %v is right", b)
		}
		for _, x := range [][]float64{nil, {1}, {1, 2}} {
			noCodes(t, "bins that are not right", b, x, api.ErrBins)
		}
		for _, feature := range []int{-1, 0, 1} {
			for _, c := range []api.Code{missing(), known(0, -1), known(9, 9)} {
				noPoint(t, "bins that are not right", b, feature, c, api.ErrBins)
			}
		}
		if len(b.Cuts) != len(b.Cats) || len(b.Cuts) != 1 {
			continue
		}
		// Wherever it stands.
		for _, l := range []api.Bins{{Cuts: [][]float64{{1}, b.Cuts[0]}, Cats: [][]int{{1}, b.Cats[0]}}, {Cuts: [][]float64{b.Cuts[0], {1}}, Cats: [][]int{b.Cats[0], {1}}}} {
			if Right(l) {
				t.Errorf("P20.1: %v is right", l)
			}
			noPoint(t, "bins that are not right", l, 0, missing(), api.ErrBins)
			noPoint(t, "bins that are not right", l, 1, missing(), api.ErrBins)
		}
	}
}

func TestCodes(t *testing.T) {
	b := api.Bins{Cuts: [][]float64{{-endless, -1, 0, 5e-324, 2, endless}, nil, {3}}, Cats: [][]int{nil, {0, 2, 3, 1023}, {3, 4}}}
	for v, want := range map[float64]int{
		-endless: 0, -math.MaxFloat64: 1, math.Nextafter(-1, -2): 1, -1: 1, math.Nextafter(-1, 0): 2, -5e-324: 2, 0: 2, 5e-324: 3, 1e-323: 4, 1: 4, 2: 4, math.Nextafter(2, 3): 5, math.MaxFloat64: 5, endless: 5,
	} {
		hasCodes(t, "thresholds", b, []float64{v, nan, nan}, known(want, -1), missing(), missing())
	}
	hasCodes(t, "-0", b, []float64{minus0, minus0, minus0}, known(2, -1), known(0, 0), known(0, -1))
	for v, want := range map[float64]int{
		0: 0, 2: 1, 3: 2, 1023: 3, 1: -1, 1024: -1, -1: -1, 2.5: -1, math.Nextafter(2, 3): -1, math.Nextafter(2, 1): -1, 5e-324: -1, -5e-324: -1, endless: -1, -endless: -1, 4294967296: -1, 1 << 63: -1, 1e300: -1, 1022.9999999999999: -1,
	} {
		hasCodes(t, "categories", b, []float64{nan, v, nan}, missing(), known(0, want), missing())
	}
	for v, want := range map[float64]api.Code{3: known(0, 0), 4: known(1, 1), 3.5: known(1, -1), 2: known(0, -1)} {
		hasCodes(t, "both", b, []float64{nan, nan, v}, missing(), missing(), want)
	}
	for _, bits := range []uint64{0x7ff0000000000001, 0x7ff8000000000000, 0xfff8000000000001, 0xffffffffffffffff} {
		hasCodes(t, "a NaN", one([]float64{1}, []int{1}), []float64{math.Float64frombits(bits)}, missing())
	}
	for _, x := range [][]float64{nil, {}, {1}, {1, 2}, {1, 2, 3, 4}, make([]float64, 100)} {
		noCodes(t, "a vector's length", b, x, api.ErrVector)
	}
}

// A code is right, or it is not, whether a number has it or not.
func TestPointRefused(t *testing.T) {
	b := api.Bins{Cuts: [][]float64{{1, 2}, nil}, Cats: [][]int{{0, 5}, {7}}}
	for _, c := range []api.Code{
		{Bin: 1, Cat: -1, Lost: true}, {Bin: -1, Cat: -1, Lost: true}, {Bin: 0, Cat: 0, Lost: true}, {Bin: 0, Cat: -2, Lost: true}, {Bin: 2, Cat: 1, Lost: true},
		known(3, -1), known(-1, -1), known(math.MaxInt, -1), known(math.MinInt, -1), known(0, 2), known(0, -2), known(0, math.MaxInt), known(0, math.MinInt), known(3, 2), known(-1, 0),
	} {
		noPoint(t, "a wrong code", b, 0, c, api.ErrBins)
	}
	noPoint(t, "one Bin too many", b, 1, known(1, -1), api.ErrBins)
	noPoint(t, "one Cat too many", b, 1, known(0, 1), api.ErrBins)
	for _, feature := range []int{-1, 2, math.MinInt, math.MaxInt} {
		for _, c := range []api.Code{missing(), known(0, -1), known(9, 9), {Bin: 1, Lost: true}} {
			noPoint(t, "a feature", b, feature, c, api.ErrRange)
		}
	}
	// Right ones that no number has.
	for _, c := range []api.Code{known(1, 0), known(2, 0), known(0, 1), known(1, 1)} {
		noPoint(t, "a category in another bin", b, 0, c, api.ErrBins)
	}
	hasPoint(t, "a category", b, 0, known(0, 0), 0)
	hasPoint(t, "a category", b, 0, known(2, 1), 5)
	hasPoint(t, "a category", b, 1, known(0, 0), 7)
	for feature := range 2 {
		hasPoint(t, "lost", b, feature, missing(), nan)
	}
}

func TestPoint(t *testing.T) {
	down := math.Nextafter(4, 0)
	up := math.Nextafter(4, 5)
	for _, c := range []struct {
		cuts []float64
		cats []int
		bin  int
		want float64 // a NaN: there is none
	}{
		{nil, nil, 0, 0},
		{nil, []int{4}, 0, 0},
		{nil, []int{0, 4}, 0, nan}, // 0 alone is tried
		{[]float64{4}, nil, 0, 4},
		{[]float64{4}, nil, 1, up},
		{[]float64{4}, []int{4}, 0, down},
		{[]float64{4}, []int{4}, 1, up},
		{[]float64{down}, []int{4}, 0, down},
		{[]float64{down}, []int{4}, 1, nan}, // nothing but 4 is tried
		{[]float64{down, 4}, nil, 1, 4},
		{[]float64{down, 4}, []int{4}, 1, nan}, // no number has it
		{[]float64{down, 4}, []int{4}, 0, down},
		{[]float64{down, 4}, []int{4}, 2, up},
		{[]float64{down, up}, []int{4}, 1, up},
		{[]float64{3, 4}, []int{4}, 1, down},
		{[]float64{3, 4}, []int{3, 4}, 1, down},
		{[]float64{math.Nextafter(down, 0), 4}, []int{4}, 1, down},
		{[]float64{0}, nil, 0, 0},
		{[]float64{0}, []int{0}, 0, -5e-324},
		{[]float64{0}, []int{0}, 1, 5e-324},
		{[]float64{-5e-324}, nil, 1, 0},
		{[]float64{-5e-324}, []int{0}, 1, nan}, // nothing but 0 is tried
		{[]float64{-5e-324, 0}, []int{0}, 1, nan},
		{[]float64{-5e-324, 5e-324}, []int{0}, 1, 5e-324},
		{[]float64{-endless}, nil, 0, -endless},
		{[]float64{-endless}, nil, 1, -math.MaxFloat64},
		{[]float64{endless}, nil, 0, endless},
		{[]float64{endless}, nil, 1, nan}, // nothing lies above
		{[]float64{math.MaxFloat64}, nil, 1, endless},
		{[]float64{-endless, endless}, nil, 1, endless},
		{[]float64{-endless, endless}, nil, 2, nan},
		{[]float64{-endless, -math.MaxFloat64}, nil, 1, -math.MaxFloat64},
		{[]float64{1, 2, 3}, nil, 1, 2},
		{[]float64{1, 2, 3}, nil, 3, math.Nextafter(3, 4)},
		{[]float64{1, 2, 3}, []int{1, 2, 3}, 2, math.Nextafter(3, 2)},
	} {
		b := one(c.cuts, c.cats)
		if what := "what is no category"; math.IsNaN(c.want) {
			noPoint(t, what, b, 0, known(c.bin, -1), api.ErrBins)
		} else {
			hasPoint(t, what, b, 0, known(c.bin, -1), c.want)
		}
		// Where another feature stands ahead and behind, nothing changes.
		b = api.Bins{Cuts: [][]float64{{7}, c.cuts, {8}}, Cats: [][]int{{7}, c.cats, {8}}}
		if what := "the second feature"; math.IsNaN(c.want) {
			noPoint(t, what, b, 1, known(c.bin, -1), api.ErrBins)
		} else {
			hasPoint(t, what, b, 1, known(c.bin, -1), c.want)
		}
	}
}

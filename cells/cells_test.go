package cells

import (
	"fmt"
	"math"
	"math/big"
	"math/rand/v2"
	"slices"
	"testing"

	"thicket/api"
	"thicket/rules"
	"thicket/trees"
)

const (
	left  = api.SideLeft
	right = api.SideRight
)

var (
	nan     = math.NaN()
	endless = math.Inf(1)
	minus0  = math.Copysign(0, -1)
)

func source() *rand.Rand { return rand.New(rand.NewPCG(23, 23)) }

func next(v float64) float64 { return math.Nextafter(v, endless) + 0 }

func prev(v float64) float64 { return math.Nextafter(v, -endless) + 0 }

func leafOf(v int64) api.Node { return api.Node{Kind: api.NodeLeaf, Value: v} }

func numberOf(feature int, threshold float64, missing api.Side) api.Node {
	return api.Node{Kind: api.NodeNumber, Feature: feature, Threshold: threshold, Missing: missing}
}

func catsOf(feature int, missing api.Side, cats ...int) api.Node {
	return api.Node{Kind: api.NodeCats, Feature: feature, Cats: cats, Missing: missing}
}

func leaf(v int64) api.Tree { return api.Tree{Nodes: []api.Node{leafOf(v)}} }

// over is a node over two trees, numbered from the root on.
func over(n api.Node, l, r api.Tree) api.Tree {
	t := api.Tree{Nodes: []api.Node{n}}
	put := func(side api.Tree) int {
		at := len(t.Nodes)
		for _, m := range side.Nodes {
			if m.Kind != api.NodeLeaf {
				m.Left, m.Right = m.Left+at, m.Right+at
			}
			t.Nodes = append(t.Nodes, m)
		}
		return at
	}
	t.Nodes[0].Left = put(l)
	t.Nodes[0].Right = put(r)
	return t
}

// below asks for feature 0 whether a number is at most v; among, whether it is one of categories.
func below(v float64, missing api.Side, l, r api.Tree) api.Tree {
	return over(numberOf(0, v, missing), l, r)
}

func among(missing api.Side, l, r api.Tree, cats ...int) api.Tree {
	return over(catsOf(0, missing, cats...), l, r)
}

// stump asks for a feature and does nothing else.
func stump(feature int, v float64) api.Tree {
	return over(numberOf(feature, v, left), leaf(1), leaf(2))
}

func ensemble(features int, l ...api.Tree) api.Ensemble {
	e := api.Ensemble{Name: "m", Outputs: 1, Base: []int64{0}, Trees: l}
	for i := range features {
		e.Features = append(e.Features, fmt.Sprint("f", i))
	}
	return e
}

func from(l ...api.Ensemble) []api.Ensemble { return l }

func span(low, high float64) api.Span { return api.Span{Low: low, High: high} }

func lost(low, high float64) api.Span { return api.Span{Low: low, High: high, Lost: true} }

func box(l ...api.Span) []api.Span { return l }

// same tells whether two lists have the same numbers, bit for bit, NaNs alike.
func same(a, b []float64) bool {
	return slices.EqualFunc(a, b, func(v, w float64) bool {
		return math.IsNaN(v) && math.IsNaN(w) || math.Float64bits(v) == math.Float64bits(w)
	})
}

func isPoints(t *testing.T, what string, l []api.Ensemble, feature int, want ...float64) {
	t.Helper()
	if got := Points(l, feature); !same(got, want) {
		t.Errorf("23.1: Points: %s: %v, not %v", what, got, want)
	}
}

// isCells holds how many cells there are to decimal digits.
func isCells(t *testing.T, what string, l []api.Ensemble, want string) {
	t.Helper()
	c, why := Cells(l)
	if why != api.OK || len(c) > 0 && c[len(c)-1] == 0 {
		t.Errorf("23.1: Cells: %s: %v, %d", what, c, why)
	}
	if got := whole(c).String(); got != want {
		t.Errorf("23.1: Cells: %s: %s, not %s", what, got, want)
	}
}

func whole(l []uint32) *big.Int {
	n := new(big.Int)
	for i := len(l) - 1; i >= 0; i-- {
		n.Lsh(n, 32)
		n.Add(n, big.NewInt(int64(l[i])))
	}
	return n
}

func noCells(t *testing.T, what string, want api.Errno, l ...api.Ensemble) {
	t.Helper()
	c, why := Cells(l)
	if why != want {
		t.Errorf("23.1: Cells: %s: %d, not %d", what, why, want)
	}
	if c != nil {
		t.Errorf("P2: Cells: %s: %v beside an error", what, c)
	}
}

func isEqual(t *testing.T, what string, a, b api.Ensemble) {
	t.Helper()
	for range 2 {
		if ok, x, why := Equal(a, b); why != api.OK || !ok || x != nil {
			t.Errorf("23.2: %s: %v, %v, %d, not equal", what, ok, x, why)
		}
		a, b = b, a
	}
}

// isUnequal holds two ensembles to differ, at this cell first, whichever comes first.
func isUnequal(t *testing.T, what string, a, b api.Ensemble, want ...float64) {
	t.Helper()
	for range 2 {
		ok, x, why := Equal(a, b)
		if why != api.OK || ok || !same(x, want) {
			t.Errorf("23.2: %s: %v, %v, %d, not %v", what, ok, x, why, want)
			return
		}
		l, _ := trees.Score(a, x)
		if m, _ := trees.Score(b, x); slices.Equal(l, m) {
			t.Errorf("23.6: %s: %v does not tell them apart", what, x)
		}
		a, b = b, a
	}
}

func noEqual(t *testing.T, what string, a, b api.Ensemble, want api.Errno) {
	t.Helper()
	for range 2 {
		ok, x, why := Equal(a, b)
		if why != want {
			t.Errorf("23.2: %s: %d, not %d", what, why, want)
		}
		if ok || x != nil {
			t.Errorf("P2: Equal: %s: %v, %v beside an error", what, ok, x)
		}
		a, b = b, a
	}
}

// isReached holds the leaves that a box reaches to be these; of these alone there are witnesses.
func isReached(t *testing.T, what string, g api.Tree, b []api.Span, want ...bool) {
	t.Helper()
	l, why := Reached(g, b)
	if why != api.OK || !slices.Equal(l, want) {
		t.Errorf("23.3: %s: %v, %d, not %v", what, l, why, want)
		return
	}
	for place, comes := range want {
		x, why := Witness(g, b, place)
		if !comes {
			if why != api.ErrEmpty || x != nil {
				t.Errorf("23.9: %s: leaf %d: %v, %d", what, place, x, why)
			}
			continue
		}
		if at, _, no := trees.Leaf(g, x); why != api.OK || no != api.OK || at != place || !lies(x, b) {
			t.Errorf("23.9: %s: leaf %d: %v, %d comes to %d", what, place, x, why, at)
		}
	}
}

// lies tells whether a vector lies in a box.
func lies(x []float64, b []api.Span) bool {
	return slices.EqualFunc(x, b, func(v float64, s api.Span) bool {
		return s.Lost && math.IsNaN(v) || s.Low <= v && v <= s.High
	})
}

func isWitness(t *testing.T, what string, g api.Tree, b []api.Span, place int, want ...float64) {
	t.Helper()
	if x, why := Witness(g, b, place); why != api.OK || !same(x, want) {
		t.Errorf("23.3: Witness: %s: leaf %d: %v, %d, not %v", what, place, x, why, want)
	}
}

func noWitness(t *testing.T, what string, g api.Tree, b []api.Span, place int, want api.Errno) {
	t.Helper()
	x, why := Witness(g, b, place)
	if why != want {
		t.Errorf("23.3: Witness: %s: leaf %d: %d, not %d", what, place, why, want)
	}
	if x != nil {
		t.Errorf("P2: Witness: %s: %v beside an error", what, x)
	}
}

// notReached holds both calls of a tree and a box to an error, whichever leaf is asked for.
func notReached(t *testing.T, what string, g api.Tree, b []api.Span, want api.Errno) {
	t.Helper()
	l, why := Reached(g, b)
	if why != want {
		t.Errorf("23.3: Reached: %s: %d, not %d", what, why, want)
	}
	if l != nil {
		t.Errorf("P2: Reached: %s: %v beside an error", what, l)
	}
	for _, place := range []int{0, 1, -1, len(g.Nodes), math.MinInt, math.MaxInt} {
		noWitness(t, what, g, b, place, want)
	}
}

// isBounds holds an ensemble's bounds and extremes: the least ones of both, the greatest ones of both.
func isBounds(t *testing.T, what string, e api.Ensemble, b []api.Span, low, high, least, greatest []int64) {
	t.Helper()
	l, m, why := Bounds(e, b)
	if why != api.OK || !slices.Equal(l, low) || !slices.Equal(m, high) {
		t.Errorf("23.4: Bounds: %s: %v, %v, %d, not %v, %v", what, l, m, why, low, high)
	}
	l, m, why = Extremes(e, b)
	if why != api.OK || !slices.Equal(l, least) || !slices.Equal(m, greatest) {
		t.Errorf("23.4: Extremes: %s: %v, %v, %d, not %v, %v", what, l, m, why, least, greatest)
	}
}

func noBounds(t *testing.T, what string, e api.Ensemble, b []api.Span, want api.Errno) {
	t.Helper()
	l, m, why := Bounds(e, b)
	if why != want {
		t.Errorf("23.4: Bounds: %s: %d, not %d", what, why, want)
	}
	if l != nil || m != nil {
		t.Errorf("P2: Bounds: %s: %v, %v beside an error", what, l, m)
	}
	noExtremes(t, what, e, b, want)
}

func noExtremes(t *testing.T, what string, e api.Ensemble, b []api.Span, want api.Errno) {
	t.Helper()
	l, m, why := Extremes(e, b)
	if why != want {
		t.Errorf("23.4: Extremes: %s: %d, not %d", what, why, want)
	}
	if l != nil || m != nil {
		t.Errorf("P2: Extremes: %s: %v, %v beside an error", what, l, m)
	}
}

func TestExamples(t *testing.T) {
	m := ensemble(2, below(1, left, leaf(10), leaf(20)))
	n := ensemble(2, below(1, right, leaf(10), leaf(20)))
	p := ensemble(2, among(left, leaf(10), leaf(20), 1))
	isPoints(t, "example 1", from(m), 0, -endless, 1, next(1), nan)
	isPoints(t, "example 1", from(m), 1, 0)
	isCells(t, "example 1", from(m), "4")
	isPoints(t, "example 1", from(m, p), 0, -endless, 1, next(1), nan)
	isPoints(t, "example 1", from(ensemble(2, among(left, leaf(10), leaf(20), 1, 2))), 0, -endless, 1, next(1), 2, next(2), nan)

	isEqual(t, "example 2", m, m)
	isUnequal(t, "example 2", m, n, nan, 0)
	isUnequal(t, "example 2", m, p, -endless, 0)

	one := m.Trees[0]
	isReached(t, "example 3", one, box(span(0, 1)), true, false)
	isReached(t, "example 3", one, box(span(0, 2)), true, true)
	isReached(t, "example 3", one, box(lost(2, 1)), true, false)
	notReached(t, "example 3", one, box(span(2, 1)), api.ErrEmpty)
	isWitness(t, "example 3", one, box(span(-5, 2)), 1, next(1))
	noWitness(t, "example 3", one, box(span(-5, 1)), 1, api.ErrEmpty)

	two := ensemble(2, one, below(2, left, leaf(5), leaf(-5)))
	isBounds(t, "example 4", two, box(span(0, 9), span(0, 0)), []int64{5}, []int64{25}, []int64{15}, []int64{25})

	// The document's own: T against T with the next threshold.
	a := ensemble(2, below(0.5, left, leaf(1000000), leaf(-2250000)))
	b := ensemble(2, below(next(0.5), left, leaf(1000000), leaf(-2250000)))
	isUnequal(t, "P12: example 8 of the whole", a, b, 0.5000000000000001, 0)
}

func TestPoints(t *testing.T) {
	two := func(v, w float64) []api.Ensemble {
		return from(ensemble(1, below(v, left, leaf(1), below(w, right, leaf(2), leaf(3)))))
	}
	apart := func(v, w float64) []api.Ensemble {
		return from(ensemble(1, below(v, left, leaf(1), leaf(2))), ensemble(1, below(w, right, leaf(1), leaf(2))))
	}
	for _, both := range []func(v, w float64) []api.Ensemble{two, apart} {
		isPoints(t, "noughts", both(0, minus0), 0, -endless, 0, next(0), nan)
		isPoints(t, "noughts", both(minus0, 0), 0, -endless, 0, next(0), nan)
		isPoints(t, "a nought below", both(minus0, minus0), 0, -endless, 0, next(0), nan)
		isPoints(t, "the ends", both(-endless, endless), 0, -endless, -math.MaxFloat64, endless, nan)
		isPoints(t, "the lower end", both(-endless, -endless), 0, -endless, -math.MaxFloat64, nan)
		isPoints(t, "the upper end", both(endless, endless), 0, -endless, endless, nan)
		isPoints(t, "the greatest", both(math.MaxFloat64, 1), 0, -endless, 1, next(1), math.MaxFloat64, endless, nan)
		isPoints(t, "the least", both(-math.MaxFloat64, -endless), 0, -endless, -math.MaxFloat64, next(-math.MaxFloat64), nan)
		isPoints(t, "neighbours", both(next(1), 1), 0, -endless, 1, next(1), next(next(1)), nan)
		isPoints(t, "ahead of nought", both(-5e-324, 5e-324), 0, -endless, -5e-324, 0, 5e-324, 1e-323, nan)
		isPoints(t, "the same", both(7, 7), 0, -endless, 7, next(7), nan)
		isPoints(t, "rising", both(7, -3), 0, -endless, -3, next(-3), 7, next(7), nan)
	}
	isPoints(t, "the category 0", from(ensemble(1, among(left, leaf(1), leaf(2), 0))), 0, -endless, 0, 5e-324, nan)
	isPoints(t, "the last category", from(ensemble(1, among(left, leaf(1), leaf(2), 0, 1023))), 0, -endless, 0, 5e-324, 1023, next(1023), nan)
	both := below(3, left, among(right, leaf(1), leaf(2), 3, 5), leaf(3))
	isPoints(t, "a category that is a threshold", from(ensemble(1, both)), 0, -endless, 3, next(3), 5, next(5), nan)
	isPoints(t, "a category next to a threshold", from(ensemble(1, below(prev(3), left, among(right, leaf(1), leaf(2), 3), leaf(3)))), 0, -endless, prev(3), 3, next(3), nan)
	isPoints(t, "a category in two trees", from(ensemble(1, both, among(left, leaf(1), leaf(2), 4, 5))), 0, -endless, 3, next(3), 4, next(4), 5, next(5), nan)
	isPoints(t, "a nought below and the category 0", from(ensemble(1, below(minus0, left, among(right, leaf(1), leaf(2), 0), leaf(3)))), 0, -endless, 0, 5e-324, nan)

	isPoints(t, "no trees", from(ensemble(3)), 2, 0)
	isPoints(t, "one leaf", from(ensemble(3, leaf(4))), 0, 0)
	isPoints(t, "of another ensemble alone", from(ensemble(3, leaf(4)), ensemble(2, stump(1, 6))), 1, -endless, 6, next(6), nan)
	isPoints(t, "of none", from(ensemble(3, stump(1, 6)), ensemble(2, stump(1, 6))), 0, 0)
	deep := over(numberOf(0, 1, left), over(numberOf(1, 2, left), leaf(1), leaf(2)), over(numberOf(0, 0, left), leaf(3), leaf(4))) // 0 is asked where no vector comes
	isPoints(t, "where no vector comes", from(ensemble(2, deep)), 0, -endless, 0, 5e-324, 1, next(1), nan)
}

func TestNoPoints(t *testing.T) {
	e := ensemble(3, stump(2, 6), stump(0, 6))
	isPoints(t, "no ensemble", nil, 0)
	isPoints(t, "no ensemble", from(), 0)
	for _, feature := range []int{-1, 3, 4, math.MinInt, math.MaxInt, -3} {
		isPoints(t, "no such feature", from(e), feature)
		isPoints(t, "no such feature", from(e, e), feature)
	}
	isPoints(t, "the first feature", from(e), 0, -endless, 6, next(6), nan)
	isPoints(t, "the last feature", from(e), 2, -endless, 6, next(6), nan)
	for _, l := range [][]api.Ensemble{from(e, ensemble(2)), from(ensemble(2), e), from(e, e, ensemble(2), e)} {
		isPoints(t, "a feature of some", l, 2)
		isPoints(t, "a feature of each", l, 0, -endless, 6, next(6), nan)
		isPoints(t, "a feature of each", l, 1, 0)
	}
	for what, wrong := range wrongEnsembles() {
		for _, l := range [][]api.Ensemble{from(wrong), from(e, wrong), from(wrong, e), from(e, wrong, e)} {
			for _, feature := range []int{0, 1, -1, 9} {
				isPoints(t, what, l, feature)
			}
		}
	}
}

// wrongEnsembles break a rule each.
func wrongEnsembles() map[string]api.Ensemble {
	all := map[string]api.Ensemble{"nothing": {}}
	for what, spoil := range map[string]func(e *api.Ensemble){
		"a name":           func(e *api.Ensemble) { e.Name = "" },
		"no features":      func(e *api.Ensemble) { e.Features = nil },
		"a feature's name": func(e *api.Ensemble) { e.Features[0] = "a b" },
		"a name twice":     func(e *api.Ensemble) { e.Features[1] = e.Features[0] },
		"outputs":          func(e *api.Ensemble) { e.Outputs = 0 },
		"Base":             func(e *api.Ensemble) { e.Base = nil },
		"an output":        func(e *api.Ensemble) { e.Trees[0].Output = 1 },
		"no nodes":         func(e *api.Ensemble) { e.Trees[0].Nodes = nil },
		"a feature":        func(e *api.Ensemble) { e.Trees[0].Nodes[0].Feature = 2 },
		"a threshold":      func(e *api.Ensemble) { e.Trees[0].Nodes[0].Threshold = nan },
		"no tree":          func(e *api.Ensemble) { e.Trees[0].Nodes[0].Right = 1 },
		"the room":         func(e *api.Ensemble) { e.Base[0] = api.MaxSum },
		"leaves":           func(e *api.Ensemble) { e.Trees[0] = chain(api.MaxLeaves+1, 0, 0) },
	} {
		e := ensemble(2, stump(0, 1))
		spoil(&e)
		all[what] = e
	}
	return all
}

// chain is a tree with so many leaves that leans to the right, with thresholds at from, from + 1, ..
func chain(leaves, feature int, from float64) api.Tree {
	var l []api.Node
	for i := range leaves - 1 {
		n := numberOf(feature, from+float64(i), right)
		n.Left, n.Right = 2*i+1, 2*i+2
		l = append(l, n, leafOf(int64(i)))
	}
	return api.Tree{Nodes: append(l, leafOf(-1))}
}

func TestCells(t *testing.T) {
	noCells(t, "no ensemble", api.ErrSize)
	isCells(t, "no trees", from(ensemble(5)), "1")
	isCells(t, "one feature", from(ensemble(1, stump(0, 1))), "4")
	isCells(t, "an end", from(ensemble(2, stump(0, 1), stump(1, endless))), "12")
	isCells(t, "several", from(ensemble(3, stump(0, 1)), ensemble(3, stump(0, 2)), ensemble(3, stump(2, 1))), "24")
	isCells(t, "several outputs", from(outputs(ensemble(3, stump(0, 1)), 3), ensemble(3, stump(0, 2))), "6")
	for _, many := range []int{16, 17, 32, 33, 100} {
		e := ensemble(many)
		for i := range many {
			e.Trees = append(e.Trees, stump(i, 1))
		}
		isCells(t, "many features", from(e), new(big.Int).Lsh(big.NewInt(1), 2*uint(many)).String())
		e.Trees[many/2] = stump(many/2, endless)
		isCells(t, "many features, an end", from(e, e), new(big.Int).Mul(big.NewInt(3), new(big.Int).Lsh(big.NewInt(1), 2*uint(many)-2)).String())
	}
	e := ensemble(2, stump(0, 1))
	noCells(t, "unlike features", api.ErrSize, e, ensemble(3, stump(0, 1)))
	noCells(t, "unlike features", api.ErrSize, ensemble(3), e)
	noCells(t, "the third has more features", api.ErrSize, e, e, ensemble(3))
	for what, wrong := range wrongEnsembles() {
		noCells(t, what, api.ErrModel, wrong)
		noCells(t, what, api.ErrModel, e, wrong)
		noCells(t, what, api.ErrModel, wrong, e)
		noCells(t, what+", and unlike features", api.ErrModel, e, ensemble(3), wrong)
	}
}

// outputs is an ensemble of more outputs, with trees as they are.
func outputs(e api.Ensemble, many int) api.Ensemble {
	e = trees.Copy(e)
	e.Outputs, e.Base = many, make([]int64, many)
	return e
}

func TestManyFeatures(t *testing.T) {
	e := ensemble(api.MaxFeatures)
	for i := range 1 << 14 {
		e.Trees = append(e.Trees, stump(4*i+3, 1))
	}
	isCells(t, "MaxFeatures", from(e), new(big.Int).Lsh(big.NewInt(1), 1<<15).String())
	isPoints(t, "MaxFeatures", from(e), api.MaxFeatures-1, -endless, 1, next(1), nan)
	isPoints(t, "MaxFeatures", from(e), api.MaxFeatures-2, 0)
	isPoints(t, "MaxFeatures", from(e), api.MaxFeatures)
	noEqual(t, "MaxFeatures", e, e, api.ErrMany)
	few := ensemble(api.MaxFeatures, stump(api.MaxFeatures-1, 1), stump(5, 3))
	isEqual(t, "MaxFeatures", few, few)
	other := ensemble(api.MaxFeatures, stump(api.MaxFeatures-1, 1), over(numberOf(5, 3, right), leaf(1), leaf(2)))
	want := make([]float64, api.MaxFeatures)
	want[5], want[api.MaxFeatures-1] = nan, -endless
	isUnequal(t, "MaxFeatures", few, other, want...)
}

func TestEqual(t *testing.T) {
	e := ensemble(2, below(1, left, leaf(10), leaf(20)), stump(1, 3))
	isEqual(t, "itself", e, e)
	isEqual(t, "a copy", e, trees.Copy(e))
	isEqual(t, "no trees", ensemble(2), ensemble(2))
	anew := ensemble(2, e.Trees[1], e.Trees[0])
	anew.Name, anew.Features = "other", []string{"x", "y"}
	isEqual(t, "another order, other names", e, anew)
	isEqual(t, "a leaf as Base", ensemble(1, leaf(0)), ensemble(1))
	isEqual(t, "a question whose answer does not matter", ensemble(1), ensemble(1, below(7, left, leaf(0), leaf(0))))
	isEqual(t, "noughts", ensemble(1, below(minus0, left, leaf(1), leaf(2))), ensemble(1, below(0, left, leaf(1), leaf(2))))
	cats := ensemble(1, among(left, leaf(1), leaf(2), 4))
	numbers := ensemble(1, below(prev(4), right, leaf(2), below(4, left, leaf(1), leaf(2))))
	isUnequal(t, "a category as two thresholds, but for NaN", cats, ensemble(1, below(prev(4), left, leaf(2), below(4, left, leaf(1), leaf(2)))), nan)
	isEqual(t, "a category as two thresholds", cats, numbers)
	isEqual(t, "one number, at most", ensemble(1, below(-endless, left, leaf(1), leaf(2))), ensemble(1, below(-endless, left, leaf(1), below(-endless, left, leaf(9), leaf(2)))))

	isUnequal(t, "Base", ensemble(2), outBase(ensemble(2), 1), 0, 0)
	isUnequal(t, "NaN alone", ensemble(1, below(1, left, leaf(1), leaf(2))), ensemble(1, below(1, right, leaf(1), leaf(2))), nan)
	isUnequal(t, "NaN alone, of the second feature", ensemble(2, stump(0, 3), over(numberOf(1, 1, left), leaf(1), leaf(2))), ensemble(2, stump(0, 3), over(numberOf(1, 1, right), leaf(1), leaf(2))), -endless, nan)
	isUnequal(t, "one number", ensemble(1, below(1, left, leaf(1), leaf(2))), ensemble(1, below(next(1), left, leaf(1), leaf(2))), next(1))
	isUnequal(t, "nought", ensemble(1, below(minus0, left, leaf(1), leaf(2))), ensemble(1, below(prev(0), left, leaf(1), leaf(2))), 0)
	isUnequal(t, "inf", ensemble(1, below(endless, left, leaf(1), leaf(2))), ensemble(1, below(math.MaxFloat64, left, leaf(1), leaf(2))), endless)
	isUnequal(t, "-inf", ensemble(1, below(-endless, left, leaf(1), leaf(2))), ensemble(1, below(5, right, leaf(2), below(5, left, leaf(9), leaf(1)))), -endless)
	isUnequal(t, "a category", cats, ensemble(1, among(left, leaf(1), leaf(2), 4, 5)), 5)
	isUnequal(t, "a category and what lies below it", cats, ensemble(1, below(4, left, leaf(1), leaf(2))), -endless)
	isUnequal(t, "a fraction", numbers, ensemble(1, below(prev(4), right, leaf(2), below(next(4), left, leaf(1), leaf(2)))), next(4))
}

// outBase is an ensemble with another first Base.
func outBase(e api.Ensemble, v int64) api.Ensemble {
	e = trees.Copy(e)
	e.Base[0] = v
	return e
}

// The first cell of several, and of several outputs.
func TestFirstCell(t *testing.T) {
	zero := ensemble(3)
	// Leaves that differ at the second feature's right and at the third one's left.
	a := ensemble(3, over(numberOf(1, 1, left), leaf(0), leaf(5)))
	isUnequal(t, "of the second feature", zero, a, 0, next(1), 0)
	a = ensemble(3, over(numberOf(1, 1, left), leaf(0), over(numberOf(0, 2, left), leaf(0), over(numberOf(2, 3, right), leaf(0), leaf(7)))))
	isUnequal(t, "the first feature is the slowest", zero, a, next(2), next(1), next(3))
	a = ensemble(2, over(numberOf(0, 2, left), leaf(0), leaf(1)), over(numberOf(1, 2, right), leaf(0), leaf(1)))
	isUnequal(t, "the last feature turns first", ensemble(2), a, -endless, next(2))
	a = ensemble(2, over(numberOf(0, 2, left), leaf(1), leaf(0)), over(numberOf(1, 2, right), leaf(0), leaf(-1)))
	isUnequal(t, "where it is not made up for", ensemble(2), a, -endless, -endless)
	a = ensemble(2, over(numberOf(1, 2, left), leaf(0), leaf(-1)), over(numberOf(0, 2, right), leaf(0), leaf(1)))
	isUnequal(t, "where it is not made up for", ensemble(2), a, -endless, next(2))

	// Each output has a first cell; the first of all is told.
	both := outputs(ensemble(2, over(numberOf(1, 4, left), leaf(0), leaf(1)), over(numberOf(1, 2, left), leaf(0), leaf(1)), over(numberOf(1, 3, left), leaf(0), leaf(1))), 3)
	for i := range both.Trees {
		both.Trees[i].Output = i
	}
	isUnequal(t, "of the second output", outputs(ensemble(2), 3), both, 0, next(2))
	both.Trees[1].Output, both.Trees[2].Output = 2, 1
	isUnequal(t, "of the third output", outputs(ensemble(2), 3), both, 0, next(2))
	both.Trees[1].Output, both.Trees[0].Output = 0, 2
	isUnequal(t, "of the first output", outputs(ensemble(2), 3), both, 0, next(2))
	swapped := trees.Copy(both)
	swapped.Trees[0].Output, swapped.Trees[1].Output = 0, 2
	isUnequal(t, "what one output has and another has not", both, swapped, 0, next(2))
}

func TestEqualErrors(t *testing.T) {
	e := ensemble(2, stump(0, 1))
	noEqual(t, "unlike features", e, ensemble(3, stump(0, 1)), api.ErrSize)
	noEqual(t, "unlike outputs", e, outputs(e, 2), api.ErrSize)
	noEqual(t, "unlike features and outputs", e, outputs(ensemble(1), 2), api.ErrSize)
	full := cellsOf(8)
	isEqual(t, "MaxCells", full, full)
	more := trees.Copy(full)
	more.Trees = append(more.Trees, stump(0, 9))
	noEqual(t, "more than MaxCells", full, more, api.ErrMany)
	noEqual(t, "more than MaxCells by both", full, cellsOf(9), api.ErrSize)
	noEqual(t, "more than MaxCells, unlike outputs", more, outputs(more, 2), api.ErrSize)
	for what, wrong := range wrongEnsembles() {
		noEqual(t, what, e, wrong, api.ErrModel)
		noEqual(t, what, wrong, wrong, api.ErrModel)
		noEqual(t, what+", and unlike features", ensemble(7), wrong, api.ErrModel)
		noEqual(t, what+", and many cells", cellsOf(9), wrong, api.ErrModel)
	}
}

// cellsOf has 4 cells a feature.
func cellsOf(features int) api.Ensemble {
	e := ensemble(features)
	for i := range features {
		e.Trees = append(e.Trees, stump(i, 1))
	}
	return e
}

// One feature with just MaxCells points, and one more.
func TestMostCells(t *testing.T) {
	e := ensemble(1)
	for i := range 8 {
		e.Trees = append(e.Trees, chain(api.MaxLeaves, 0, float64(i*(api.MaxLeaves-1))))
	}
	e.Trees = append(e.Trees, chain(8, 0, 8*(api.MaxLeaves-1)))
	if n := len(Points(from(e), 0)); n != api.MaxCells {
		t.Fatal("23.1: points:", n)
	}
	isCells(t, "MaxCells", from(e), "65536")
	isEqual(t, "MaxCells", e, e)
	last := trees.Copy(e)
	i := slices.IndexFunc(last.Trees[8].Nodes, func(n api.Node) bool { return n.Value == -1 })
	last.Trees[8].Nodes[i].Value = 77
	isUnequal(t, "at the last numbers", e, last, next(32766))
	last = trees.Copy(e)
	last.Trees[8].Nodes[0].Missing = left
	isUnequal(t, "at the last cell", e, last, nan)
	least, greatest, why := Extremes(e, box(lost(-endless, endless)))
	if why != api.OK || least[0] != -9 || greatest[0] != 4094 {
		t.Error("23.4: MaxCells:", least, greatest, why)
	}
	noPoint := trees.Copy(e)
	noPoint.Trees = append(noPoint.Trees, stump(0, endless))
	isCells(t, "one more", from(noPoint), "65537")
	noEqual(t, "one more", noPoint, e, api.ErrMany)
	noExtremes(t, "one more", noPoint, box(lost(-endless, endless)), api.ErrMany)
	if _, _, why := Extremes(noPoint, box(span(-endless, endless))); why != api.OK {
		t.Error("23.4: without NaN there is one fewer:", why)
	}
	if _, _, why := Bounds(noPoint, box(lost(-endless, endless))); why != api.OK {
		t.Error("23.4: Bounds has no such limit:", why)
	}
	// 65536 = 256 times 256, and 257 times 256.
	pair := ensemble(2, chain(128, 0, 0), chain(128, 1, 0))
	isCells(t, "two features", from(pair), "65536")
	isEqual(t, "two features", pair, pair)
	pair.Trees = append(pair.Trees, stump(0, endless))
	isCells(t, "two features", from(pair), "65792")
	noEqual(t, "two features", pair, pair, api.ErrMany)
}

// Of each cell of a grid with ends, a cell alone can tell two ensembles apart: it is found.
func TestEachCell(t *testing.T) {
	e := ensemble(3, stump(0, 1), stump(2, endless), stump(1, 4), stump(1, 2))
	var l [][]float64
	for i := range 3 {
		l = append(l, Points(from(e), i))
	}
	for _, u := range l[0] {
		for _, v := range l[1] {
			for _, w := range l[2] {
				other := trees.Copy(e)
				other.Trees = append(other.Trees, only([]float64{u, v, w}))
				isUnequal(t, "each cell", e, other, u, v, w)
			}
		}
	}
}

// only is a tree that says 1 of numbers from x to the next thresholds alone, else 0.
func only(x []float64) api.Tree {
	g := leaf(1)
	for i, v := range x {
		switch {
		case math.IsNaN(v): // of NaN alone: nothing is above inf
			g = over(numberOf(i, endless, right), leaf(0), g)
		default:
			g = over(numberOf(i, v, right), g, leaf(0))
			if !math.IsInf(v, -1) {
				g = over(numberOf(i, prev(v), left), leaf(0), g)
			}
		}
	}
	return g
}

func TestBoxes(t *testing.T) {
	g := below(1, right, leaf(10), leaf(20))
	for what, c := range map[string]struct {
		s    api.Span
		want []bool
	}{
		"all":                     {lost(-endless, endless), []bool{true, true}},
		"all numbers":             {span(-endless, endless), []bool{true, true}},
		"NaN alone":               {lost(2, 1), []bool{false, true}},
		"NaN alone, from inf":     {lost(endless, -endless), []bool{false, true}},
		"NaN as Low":              {lost(nan, 1), []bool{false, true}},
		"NaN as High":             {lost(0, nan), []bool{false, true}},
		"NaN as both":             {lost(nan, nan), []bool{false, true}},
		"one number":              {span(1, 1), []bool{true, false}},
		"one number, or NaN":      {lost(1, 1), []bool{true, true}},
		"the next number":         {span(next(1), next(1)), []bool{false, true}},
		"two numbers":             {span(1, next(1)), []bool{true, true}},
		"-inf":                    {span(-endless, -endless), []bool{true, false}},
		"inf":                     {span(endless, endless), []bool{false, true}},
		"up to the threshold":     {span(-endless, 1), []bool{true, false}},
		"from behind it":          {span(next(1), endless), []bool{false, true}},
		"a nought":                {span(0, 0), []bool{true, false}},
		"noughts, -0 first":       {span(minus0, 0), []bool{true, false}},
		"noughts, 0 first":        {span(0, minus0), []bool{true, false}},
		"far below":               {span(-9, -8), []bool{true, false}},
		"far above, or NaN":       {lost(8, 9), []bool{false, true}},
		"the least to the others": {span(-endless, -math.MaxFloat64), []bool{true, false}},
	} {
		isReached(t, what, g, box(c.s), c.want...)
		isReached(t, what+", and others", g, box(c.s, span(4, 5), lost(1, 0)), c.want...)
	}
	for what, s := range map[string]api.Span{"Low above High": span(2, 1), "NaN as Low": span(nan, 1), "NaN as High": span(0, nan), "NaN as both": span(nan, nan), "by one": span(next(1), 1), "inf to -inf": span(endless, -endless), "by the least": span(5e-324, 0)} {
		notReached(t, what, g, box(s), api.ErrEmpty)
		notReached(t, what+", of a feature that is not asked", g, box(span(0, 1), s), api.ErrEmpty)
		notReached(t, what+", of a leaf", leaf(1), box(span(0, 1), s), api.ErrEmpty)
		noBounds(t, what, ensemble(1, g), box(s), api.ErrEmpty)
		noBounds(t, what, ensemble(3, g), box(span(0, 1), lost(2, 1), s), api.ErrEmpty)
	}
	isReached(t, "no spans, a leaf", leaf(1), nil, true)
	isReached(t, "no spans, a leaf", leaf(1), box(), true)
	isWitness(t, "no spans, a leaf", leaf(1), nil, 0)
	isReached(t, "a leaf", leaf(1), box(span(0, 1), lost(2, 1)), true)
	isWitness(t, "a leaf", leaf(1), box(span(-3, 1), lost(2, 1), span(minus0, 4), lost(-endless, 2)), 0, -3, nan, 0, -endless)
}

func TestWitness(t *testing.T) {
	g := below(1, right, leaf(10), leaf(20))
	isWitness(t, "Low", g, box(span(-5, 2)), 0, -5)
	isWitness(t, "Low above the threshold", g, box(span(5, 7)), 1, 5)
	isWitness(t, "-inf", g, box(lost(-endless, 2)), 0, -endless)
	isWitness(t, "a number ahead of NaN", g, box(lost(-endless, 2)), 1, next(1))
	isWitness(t, "NaN alone", g, box(lost(-endless, 1)), 1, nan)
	isWitness(t, "NaN alone, no numbers", g, box(lost(3, 2)), 1, nan)
	isWitness(t, "-0 is 0", g, box(span(minus0, 2)), 0, 0)
	isWitness(t, "0 to -0", g, box(span(0, minus0)), 0, 0)
	isWitness(t, "up to nought", g, box(span(-1, minus0)), 0, -1)
	isWitness(t, "others", g, box(span(0, 2), span(minus0, 1), lost(1, 0), span(7, 7)), 1, next(1), 0, nan, 7)
	isWitness(t, "behind a threshold below Low", below(-9, left, leaf(1), leaf(2)), box(span(3, 4)), 1, 3)
	isWitness(t, "behind -0", below(minus0, left, leaf(1), leaf(2)), box(span(-3, 4)), 1, 5e-324)
	isWitness(t, "behind ahead of 0", below(-5e-324, left, leaf(1), leaf(2)), box(span(-3, 4)), 1, 0)
	isWitness(t, "inf", below(math.MaxFloat64, left, leaf(1), leaf(2)), box(span(-3, endless)), 1, endless)
	isReached(t, "not inf", below(math.MaxFloat64, left, leaf(1), leaf(2)), box(lost(-3, math.MaxFloat64)), true, false)
	isReached(t, "nothing above inf", below(endless, left, leaf(1), leaf(2)), box(lost(-3, endless)), true, false)
	isReached(t, "NaN above inf", below(endless, right, leaf(1), leaf(2)), box(lost(-3, endless)), true, true)

	// The same feature again and again.
	g = below(5, left, below(2, left, leaf(1), below(3, right, leaf(2), leaf(3))), below(4, left, leaf(4), leaf(5)))
	isReached(t, "again", g, box(lost(-endless, endless)), true, true, true, false, true)
	isWitness(t, "again", g, box(lost(-endless, endless)), 1, next(2))
	isWitness(t, "again", g, box(lost(-endless, endless)), 2, next(3))
	isWitness(t, "again", g, box(span(4.5, 5)), 2, 4.5)
	isReached(t, "again, a few", g, box(span(2.5, 3)), false, true, false, false, false)
	isReached(t, "again, a few, NaN", g, box(lost(2.5, 3)), true, true, false, false, false)
	isReached(t, "again, above", g, box(span(next(5), 9)), false, false, false, false, true)
	g = below(5, right, leaf(1), below(4, left, leaf(2), leaf(3)))
	isReached(t, "NaN alone comes to it", g, box(lost(0, 9)), true, true, true)
	isWitness(t, "NaN alone comes to it", g, box(lost(0, 9)), 1, nan)
	isReached(t, "none comes to it", g, box(span(0, 9)), true, false, true)
	noWitness(t, "none comes to it", g, box(span(0, 9)), 1, api.ErrEmpty)
}

func TestCategories(t *testing.T) {
	g := among(right, leaf(1), leaf(2), 2, 5)
	isReached(t, "all", g, box(span(-endless, endless)), true, true)
	isWitness(t, "the least category", g, box(span(-endless, endless)), 0, 2)
	isWitness(t, "-inf is none", g, box(span(-endless, endless)), 1, -endless)
	isReached(t, "one alone", g, box(span(2, 2)), true, false)
	isReached(t, "the other alone", g, box(span(5, 5)), true, false)
	isReached(t, "one, or NaN", g, box(lost(2, 2)), true, true)
	isWitness(t, "one, or NaN", g, box(lost(2, 2)), 1, nan)
	isReached(t, "from one to the next number", g, box(span(2, next(2))), true, true)
	isWitness(t, "from one to the next number", g, box(span(2, next(2))), 1, next(2))
	isReached(t, "a fraction", g, box(span(2.5, 2.5)), false, true)
	isReached(t, "fractions", g, box(span(2.5, prev(5))), false, true)
	isWitness(t, "fractions", g, box(span(2.5, prev(5))), 1, 2.5)
	isReached(t, "fractions and a category", g, box(span(2.5, 5)), true, true)
	isWitness(t, "fractions and a category", g, box(span(2.5, 5)), 0, 5)
	isReached(t, "another category", g, box(span(3, 4)), false, true)
	isReached(t, "below all", g, box(span(-endless, prev(2))), false, true)
	isReached(t, "behind all", g, box(span(next(5), endless)), false, true)
	isReached(t, "far beyond", g, box(lost(1023.5, 1e300)), false, true)
	isReached(t, "NaN alone", g, box(lost(1, 0)), false, true)
	isReached(t, "NaN alone, left", among(left, leaf(1), leaf(2), 2), box(lost(3, 1)), true, false)
	isWitness(t, "NaN left, a number ahead", among(left, leaf(1), leaf(2), 2), box(lost(0, 3)), 0, 2)
	isWitness(t, "NaN left, no number", among(left, leaf(1), leaf(2), 2), box(lost(0, 1)), 0, nan)
	for _, v := range []float64{0, minus0} {
		isReached(t, "0", among(left, leaf(1), leaf(2), 0), box(span(v, v)), true, false)
		isReached(t, "behind 0", among(left, leaf(1), leaf(2), 0), box(span(v, 5e-324)), true, true)
		isReached(t, "up to 0", among(left, leaf(1), leaf(2), 0), box(span(-5e-324, v)), true, true)
		isWitness(t, "0", among(left, leaf(1), leaf(2), 0), box(span(-1, v)), 0, 0)
	}
	isReached(t, "the last one", among(left, leaf(1), leaf(2), 1023), box(span(1023, 1023)), true, false)
	isWitness(t, "behind the last one", among(left, leaf(1), leaf(2), 1023), box(span(1023, 1025)), 1, next(1023))
	isReached(t, "no category any more", among(left, leaf(1), leaf(2), 1023), box(span(1024, 1024)), false, true)

	twice := among(right, among(left, leaf(1), leaf(2), 2, 7), among(right, leaf(3), leaf(4), 5, 6), 2, 3, 5)
	isReached(t, "twice", twice, box(span(-endless, endless)), true, true, true, true)
	isWitness(t, "in both", twice, box(span(-endless, endless)), 0, 2)
	isWitness(t, "in the first alone", twice, box(span(-endless, endless)), 1, 3)
	isWitness(t, "in the second alone", twice, box(span(-endless, endless)), 2, 6)
	isWitness(t, "in none", twice, box(span(2, endless)), 3, next(2))
	isReached(t, "twice, few", twice, box(span(3, 5)), false, true, false, true)
	isWitness(t, "twice, few", twice, box(span(3.5, 5)), 1, 5)
	both := among(right, below(3, left, leaf(1), leaf(2)), below(5, left, leaf(3), leaf(4)), 2, 5)
	isReached(t, "and a threshold", both, box(span(3, 5)), false, true, true, false)
	isWitness(t, "and a threshold", both, box(span(-1, 9)), 1, 5)
	isWitness(t, "and a threshold", both, box(span(2, 9)), 2, next(2))
	isWitness(t, "and a threshold", both, box(span(2, 9)), 3, next(5))
	ranged := below(3, left, leaf(0), below(5, left, among(right, leaf(1), leaf(2), 1, 4, 9), leaf(3)))
	isReached(t, "between thresholds", ranged, box(span(0, 9)), true, true, true, true)
	isWitness(t, "between thresholds", ranged, box(span(0, 9)), 1, 4)
	isReached(t, "none between thresholds", ranged, box(span(0, prev(4))), true, false, true, false)
	isReached(t, "none between thresholds", ranged, box(span(next(4), 9)), false, false, true, true)
	var all []int
	for c := range api.MaxCats {
		all = append(all, c)
	}
	g = among(left, leaf(1), leaf(2), all...)
	for _, c := range []float64{0, 1, 62, 63, 64, 65, 127, 128, 1022, 1023} {
		isReached(t, "of all", g, box(span(c, c)), true, false)
		isWitness(t, "of all", g, box(span(prev(c), c)), 0, c)
		isWitness(t, "between", g, box(span(c, c+0.5)), 1, next(c))
	}
	isReached(t, "beyond all", g, box(span(1024, 2000)), false, true)
	for _, c := range []int{0, 1, 63, 64, 127, 128, 512, 1023} {
		g = among(left, leaf(1), leaf(2), c)
		isWitness(t, "one of words", g, box(span(-endless, endless)), 0, float64(c))
		isReached(t, "one of words", g, box(span(next(float64(c)), endless)), false, true)
		for _, low := range []int{0, 1, 31, 62, 63, 64, 65, 70, 126, 127, 128, 500, 1000, 1022, 1023} { // from wherever a word is looked at
			if low <= c {
				isWitness(t, "from a number on", g, box(span(float64(low), endless)), 0, float64(c))
			} else {
				noWitness(t, "from a number on", g, box(span(float64(low), endless)), 0, api.ErrEmpty)
			}
		}
	}
}

func TestWrongTrees(t *testing.T) {
	good := below(2, left, below(3, left, leaf(10), leaf(20)), leaf(30))
	for what, c := range map[string]struct {
		want  api.Errno
		spoil func(g *api.Tree)
	}{
		"no nodes":         {api.ErrShape, func(g *api.Tree) { g.Nodes = nil }},
		"a kind":           {api.ErrSplit, func(g *api.Tree) { g.Nodes[4].Kind = 0 }},
		"another kind":     {api.ErrSplit, func(g *api.Tree) { g.Nodes[4].Kind = 4 }},
		"a leaf's feature": {api.ErrSplit, func(g *api.Tree) { g.Nodes[4].Feature = 1 }},
		"a threshold":      {api.ErrSplit, func(g *api.Tree) { g.Nodes[1].Threshold = nan }},
		"Missing":          {api.ErrSplit, func(g *api.Tree) { g.Nodes[1].Missing = 0 }},
		"a feature":        {api.ErrSplit, func(g *api.Tree) { g.Nodes[1].Feature = api.MaxFeatures }},
		"a feature below":  {api.ErrSplit, func(g *api.Tree) { g.Nodes[1].Feature = -1 }},
		"a category": {api.ErrSplit, func(g *api.Tree) {
			g.Nodes[1] = api.Node{Kind: api.NodeCats, Cats: []int{1024}, Missing: left, Left: 2, Right: 3}
		}},
		"Left the root": {api.ErrSplit, func(g *api.Tree) { g.Nodes[1].Left = 0 }},
		"a node twice":  {api.ErrShape, func(g *api.Tree) { g.Nodes[1].Left = 4 }},
		"a loose node":  {api.ErrShape, func(g *api.Tree) { g.Nodes = append(g.Nodes, leafOf(1)) }},
		"a kind, and a loose node": {api.ErrSplit, func(g *api.Tree) {
			g.Nodes[4].Kind = 0
			g.Nodes = append(g.Nodes, leafOf(1))
		}},
	} {
		g := api.Tree{Nodes: slices.Clone(good.Nodes)}
		c.spoil(&g)
		for _, b := range [][]api.Span{nil, box(span(1, 2)), box(span(2, 1)), box(span(1, 2), span(2, 1))} { // whatever else is wrong
			notReached(t, what, g, b, c.want)
		}
	}
}

func TestTreeErrors(t *testing.T) {
	g := over(numberOf(1, 2, left), leaf(1), over(numberOf(3, 2, left), leaf(2), leaf(3)))
	some := box(span(0, 9), span(0, 9), span(0, 9), span(0, 9))
	isReached(t, "a box of just so many", g, some, true, true, true)
	for n := range 4 {
		notReached(t, "an inner node's feature", g, some[:n], api.ErrSize)
	}
	notReached(t, "a feature, and an empty box", g, box(span(2, 1), span(2, 1), span(2, 1)), api.ErrSize)
	notReached(t, "an empty box", g, box(span(0, 9), span(0, 9), span(2, 1), span(0, 9)), api.ErrEmpty)
	unreached := over(numberOf(0, 2, left), leaf(1), over(numberOf(0, 1, left), over(numberOf(3, 2, left), leaf(2), leaf(3)), leaf(4)))
	notReached(t, "a feature that no vector is asked for", unreached, some[:3], api.ErrSize)
	for _, place := range []int{-1, 3, 4, math.MinInt, math.MaxInt} {
		noWitness(t, "no such leaf", g, some, place, api.ErrRange)
	}
	isWitness(t, "the first leaf", g, some, 0, 0, 0, 0, 0)
	isWitness(t, "the last leaf", g, some, 2, 0, next(2), 0, next(2))
	noWitness(t, "one leaf, and no more", leaf(1), nil, 1, api.ErrRange)
	noWitness(t, "one leaf, and none ahead", leaf(1), nil, -1, api.ErrRange)
	// Leaves are numbered from left to right, whatever their nodes' numbers.
	other := api.Tree{Nodes: []api.Node{{Kind: api.NodeNumber, Threshold: 5, Missing: left, Left: 3, Right: 1}, leafOf(30), leafOf(20), {Kind: api.NodeNumber, Threshold: 2, Missing: left, Left: 4, Right: 2}, leafOf(10)}}
	isReached(t, "from left to right", other, box(span(0, 5)), true, true, false)
	isReached(t, "from left to right", other, box(span(3, 9)), false, true, true)
	isWitness(t, "from left to right", other, box(span(0, 9)), 1, next(2))
	isWitness(t, "from left to right", other, box(span(0, 9)), 2, next(5))
	g.Output = -4 // no matter here
	isReached(t, "Output", g, some, true, true, true)
}

// Trees of any size, however deep.
func TestDeepTrees(t *testing.T) {
	for _, leaves := range []int{api.MaxLeaves, api.MaxLeaves + 1, 1 << 18} {
		g := chain(leaves, 0, 0)
		l, why := Reached(g, box(span(10, 20)))
		if why != api.OK || len(l) != leaves {
			t.Fatal("23.3: a deep tree:", len(l), why)
		}
		for place, comes := range l {
			if comes != (place >= 10 && place <= 20) {
				t.Errorf("23.3: a deep tree: leaf %d: %v", place, comes)
			}
		}
		isWitness(t, "a deep tree", g, box(span(10, endless)), leaves-1, next(float64(leaves-2)))
		isWitness(t, "a deep tree", g, box(lost(10, 20)), leaves-1, nan)
		noWitness(t, "a deep tree", g, box(span(10, 20)), leaves-1, api.ErrEmpty)
	}
}

func TestBounds(t *testing.T) {
	all := box(lost(-endless, endless))
	isBounds(t, "no trees", outBase(ensemble(1), 7), all, []int64{7}, []int64{7}, []int64{7}, []int64{7})
	isBounds(t, "leaves", outBase(ensemble(1, leaf(-5), leaf(3)), 7), all, []int64{5}, []int64{5}, []int64{5}, []int64{5})
	g := below(2, left, below(1, right, leaf(4), leaf(-8)), leaf(9))
	for what, c := range map[string]struct {
		s         api.Span
		low, high int64
	}{
		"all":             {lost(-endless, endless), -8, 9},
		"NaN":             {lost(2, 1), -8, -8},
		"low numbers":     {span(-endless, 1), 4, 4},
		"low ones or NaN": {lost(-endless, 1), -8, 4},
		"high numbers":    {span(next(2), endless), 9, 9},
		"middle numbers":  {span(1.5, 2), -8, -8},
		"two sides":       {span(1.5, 2.5), -8, 9},
	} {
		isBounds(t, what, outBase(ensemble(1, g), 100), box(c.s), []int64{100 + c.low}, []int64{100 + c.high}, []int64{100 + c.low}, []int64{100 + c.high})
	}
	// Two trees that can not be at their least together; nor at their greatest.
	two := ensemble(1, below(1, left, leaf(0), leaf(10)), below(2, left, leaf(10), leaf(0)))
	isBounds(t, "not together", two, box(span(0, 9)), []int64{0}, []int64{20}, []int64{10}, []int64{20})
	isBounds(t, "not together", two, box(span(2, 9)), []int64{10}, []int64{20}, []int64{10}, []int64{20})
	isBounds(t, "together", two, box(span(next(1), 2)), []int64{20}, []int64{20}, []int64{20}, []int64{20})
	two = ensemble(2, over(numberOf(0, 1, left), leaf(0), leaf(10)), over(numberOf(1, 1, left), leaf(10), leaf(0)))
	isBounds(t, "of two features they can", two, box(span(0, 9), span(0, 9)), []int64{0}, []int64{20}, []int64{0}, []int64{20})

	// Each output for itself.
	many := outputs(ensemble(1, two.Trees[0], below(2, left, leaf(-7), leaf(7)), below(2, right, leaf(1), leaf(3)), below(3, left, leaf(5), leaf(-5))), 3)
	many.Base = []int64{1, 2, 3}
	for i, output := range []int{0, 2, 2, 2} {
		many.Trees[i].Output = output
	}
	isBounds(t, "outputs", many, all, []int64{1, 2, 3 - 7 + 1 - 5}, []int64{11, 2, 3 + 7 + 3 + 5}, []int64{1, 2, 3 - 7 + 1 + 5}, []int64{11, 2, 3 + 7 + 3 + 5})

	// At the edge of what there is room for.
	for _, sign := range []int64{1, -1} {
		e := outBase(ensemble(1, below(1, left, leaf(sign*5), leaf(-sign*5))), sign*(api.MaxSum-6))
		low, high := sign*(api.MaxSum-6)-5, sign*(api.MaxSum-6)+5
		isBounds(t, "room", e, all, []int64{low}, []int64{high}, []int64{low}, []int64{high})
		e.Base[0] += sign
		noBounds(t, "no room", e, all, api.ErrModel)
	}
}

func TestBoundsErrors(t *testing.T) {
	e := ensemble(2, stump(0, 1))
	some := box(span(0, 9), span(0, 9), span(0, 9))
	isBounds(t, "as many spans", e, some[:2], []int64{1}, []int64{2}, []int64{1}, []int64{2})
	noBounds(t, "one span more", e, some, api.ErrSize)
	noBounds(t, "one span fewer", e, some[:1], api.ErrSize)
	noBounds(t, "no spans", e, nil, api.ErrSize)
	noBounds(t, "one span more, an empty one", e, box(span(0, 9), span(2, 1), span(0, 9)), api.ErrSize)
	noBounds(t, "an empty span", e, box(span(0, 9), span(2, 1)), api.ErrEmpty)
	for what, wrong := range wrongEnsembles() {
		noBounds(t, what, wrong, some[:2], api.ErrModel)
		noBounds(t, what+", and a box", wrong, some, api.ErrModel)
		noBounds(t, what+", and an empty box", wrong, box(span(2, 1), span(2, 1)), api.ErrModel)
	}
	many := cellsOf(9)
	noExtremes(t, "many points, an empty box", many, slices.Repeat(box(span(2, 1)), 9), api.ErrEmpty)
	noExtremes(t, "many points, one span fewer", many, slices.Repeat(box(lost(0, 9)), 8), api.ErrSize)
}

// How many points a box has, at MaxCells and one more.
func TestMostPoints(t *testing.T) {
	whole := lost(-endless, endless)
	taken := func(what string, e api.Ensemble, b []api.Span) {
		t.Helper()
		if _, _, why := Extremes(e, b); why != api.OK {
			t.Errorf("23.4: %s: %d", what, why)
		}
	}
	eight, nine := cellsOf(8), cellsOf(9)
	taken("MaxCells points", eight, slices.Repeat(box(whole), 8))
	noExtremes(t, "four times that", nine, slices.Repeat(box(whole), 9), api.ErrMany)
	taken("one point of the ninth", nine, append(slices.Repeat(box(whole), 8), span(5, 6)))
	taken("NaN of the ninth", nine, append(slices.Repeat(box(whole), 8), lost(6, 5)))
	noExtremes(t, "two points of the ninth", nine, append(slices.Repeat(box(whole), 8), lost(5, 6)), api.ErrMany)
	noExtremes(t, "Low and a mark of the ninth", nine, append(slices.Repeat(box(whole), 8), span(0.5, 1)), api.ErrMany)
	noExtremes(t, "Low and what is behind a mark of the ninth", nine, append(slices.Repeat(box(whole), 8), span(1, 3)), api.ErrMany)
	taken("a mark alone of the ninth", nine, append(slices.Repeat(box(whole), 8), span(1, 1)))
	taken("noughts are one point", nine, append(slices.Repeat(box(whole), 8), span(minus0, 0)))

	// A feature that has no inner node has the point 0, so a span across it has Low and 0.
	idle := ensemble(9, eight.Trees...)
	taken("a feature that is not asked, from 0 on", idle, append(slices.Repeat(box(whole), 8), span(0, 9)))
	taken("a feature that is not asked, from -0 on", idle, append(slices.Repeat(box(whole), 8), span(minus0, 9)))
	taken("a feature that is not asked, behind 0", idle, append(slices.Repeat(box(whole), 8), span(5e-324, 9)))
	taken("a feature that is not asked, below 0", idle, append(slices.Repeat(box(whole), 8), span(-9, -1)))
	noExtremes(t, "a feature that is not asked, across 0", idle, append(slices.Repeat(box(whole), 8), span(-9, 9)), api.ErrMany)
	noExtremes(t, "a feature that is not asked, up to 0", idle, append(slices.Repeat(box(whole), 8), span(-9, minus0)), api.ErrMany)
	noExtremes(t, "a feature that is not asked, and NaN", idle, append(slices.Repeat(box(whole), 8), lost(0, 9)), api.ErrMany)
	idle = ensemble(16)
	taken("sixteen idle features, two points each", idle, slices.Repeat(box(lost(0, 9)), 16))
	idle = ensemble(17)
	noExtremes(t, "seventeen", idle, slices.Repeat(box(span(-1, 9)), 17), api.ErrMany)
	taken("seventeen, one of a point", idle, append(slices.Repeat(box(span(-1, 9)), 16), span(1, 9)))
	idle = ensemble(api.MaxFeatures, stump(70, 4))
	b := slices.Repeat(box(span(3, 9)), api.MaxFeatures)
	isBounds(t, "MaxFeatures", idle, b, []int64{1}, []int64{2}, []int64{1}, []int64{2})
	noExtremes(t, "MaxFeatures, many points", idle, slices.Repeat(box(lost(3, 9)), api.MaxFeatures), api.ErrMany)
	if !rules.Valid(idle) {
		t.Error("not right")
	}
}

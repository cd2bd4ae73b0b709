package trees

import (
	"math"
	"math/rand/v2"
	"slices"
	"testing"

	"thicket/api"
)

// someEnsemble is right but for its names, of four features and three outputs.
func someEnsemble(r *rand.Rand, many int) api.Ensemble {
	e := api.Ensemble{Name: "m", Features: []string{"a", "b", "c", "d"}, Outputs: 3, Base: []int64{r.Int64N(100), -r.Int64N(100), 0}}
	for range many {
		e.Trees = append(e.Trees, someTree(r, 1+r.IntN(9), 4))
	}
	return e
}

// wayByWords goes from a node to a leaf as the chapter says it.
func wayByWords(l []api.Node, i int, x []float64) []int {
	n := l[i]
	if n.Kind == api.NodeLeaf {
		return []int{i}
	}
	v := x[n.Feature]
	toLeft := v <= n.Threshold
	if n.Kind == api.NodeCats {
		toLeft = slices.ContainsFunc(n.Cats, func(c int) bool { return v == float64(c) })
	}
	if v != v {
		toLeft = n.Missing == left
	}
	if toLeft {
		return append([]int{i}, wayByWords(l, n.Left, x)...)
	}
	return append([]int{i}, wayByWords(l, n.Right, x)...)
}

func TestExamplesOfWays(t *testing.T) {
	for _, c := range []struct {
		x     []float64
		way   []int
		place int
		value int64
	}{
		{[]float64{3, 0.5}, []int{0, 2, 3}, 0, 10}, {[]float64{2, 0.5}, []int{0, 2, 4}, 1, 20}, {[]float64{1.5, 0}, []int{0, 2, 4}, 1, 20},
		{[]float64{nan, 0}, []int{0, 2, 3}, 0, 10}, {[]float64{0, 0.6}, []int{0, 1}, 2, 30}, {[]float64{0, nan}, []int{0, 1}, 2, 30},
		{[]float64{1, -endless}, []int{0, 2, 3}, 0, 10}, {[]float64{1, endless}, []int{0, 1}, 2, 30}, {[]float64{endless, minus0, 9, nan}, []int{0, 2, 4}, 1, 20},
	} {
		if w, why := Way(grown(), c.x); why != api.OK || !slices.Equal(w, c.way) {
			t.Errorf("7.4: Way at %v: %v, %d", c.x, w, why)
		}
		if i, v, why := Leaf(grown(), c.x); why != api.OK || i != c.place || v != c.value {
			t.Errorf("7.4: Leaf at %v: %d, %d, %d", c.x, i, v, why)
		}
	}
}

// A vector is too short if any inner node asks for more, though the vector would not come by it.
func TestShortVectors(t *testing.T) {
	g := treeOf(numberOf(0, 0, left, 1, 2), leafOf(1), numberOf(5, 0, left, 3, 4), leafOf(2), catsOf(2, left, 5, 6, 0), leafOf(3), leafOf(4))
	for many := range 9 {
		x := make([]float64, many)
		w, why := Way(g, x)
		i, v, also := Leaf(g, x)
		if why != also || many < 6 && (why != api.ErrVector || w != nil || i != 0 || v != 0) || many >= 6 && (why != api.OK || !slices.Equal(w, []int{0, 1}) || i != 0 || v != 1) {
			t.Errorf("7.4: %d numbers: %v, %d; %d, %d, %d", many, w, why, i, v, also)
		}
	}
	for _, x := range [][]float64{nil, {}, {nan}} { // a leaf asks for nothing
		if w, why := Way(treeOf(leafOf(7)), x); why != api.OK || !slices.Equal(w, []int{0}) {
			t.Errorf("7.4: of a leaf: %v, %d", w, why)
		}
		if i, v, why := Leaf(treeOf(leafOf(7)), x); why != api.OK || i != 0 || v != 7 {
			t.Errorf("7.4: of a leaf: %d, %d, %d", i, v, why)
		}
	}
	last := treeOf(numberOf(api.MaxFeatures-1, 0, left, 1, 2), leafOf(1), leafOf(2))
	x := make([]float64, api.MaxFeatures)
	if _, v, why := Leaf(last, x); why != api.OK || v != 1 {
		t.Error("7.4: the last feature:", v, why)
	}
	if _, why := Way(last, x[1:]); why != api.ErrVector {
		t.Error("7.4: one number fewer:", why)
	}
}

func TestWaysOfAnyVectors(t *testing.T) {
	r := source()
	for _, g := range someTrees(r, 60) {
		leaves, _ := Leaves(g)
		c, _ := Canon(g)
		for range 20 {
			x := someVector(r, 4)
			want := wayByWords(g.Nodes, 0, x)
			w, why := Way(g, x)
			if why != api.OK || !slices.Equal(w, want) {
				t.Fatalf("7.4: Way of %v at %v: %v, %d", g, x, w, why)
			}
			end := want[len(want)-1]
			i, v, why := Leaf(g, x)
			if why != api.OK || leaves[i] != end || v != g.Nodes[end].Value {
				t.Fatalf("7.4, 7.9: Leaf of %v at %v: %d, %d, %d", g, x, i, v, why)
			}
			if j, u, why := Leaf(c, x); why != api.OK || j != i || u != v {
				t.Fatalf("7.9: Leaf of Canon of %v at %v: %d, %d, %d", g, x, j, u, why)
			}
		}
	}
}

func TestGoesAtThresholds(t *testing.T) {
	numbers := []float64{-endless, -math.MaxFloat64, -1, -5e-324, minus0, 0, 5e-324, 0.5, math.Nextafter(0.5, 1), 1, math.MaxFloat64, endless}
	for i, threshold := range numbers {
		for j, x := range numbers {
			want := right
			if j <= i || x == 0 && threshold == 0 {
				want = left
			}
			if s := Goes(api.Node{Kind: api.NodeNumber, Threshold: threshold}, x); s != want {
				t.Errorf("7.3: %v at %v: %d", x, threshold, s)
			}
		}
	}
	for _, x := range numbers { // of a hand-made node
		if s := Goes(api.Node{Kind: api.NodeNumber, Threshold: nan, Missing: left}, x); s != right {
			t.Errorf("7.3: %v at NaN: %d", x, s)
		}
	}
}

func TestGoesOfNaN(t *testing.T) {
	for _, x := range []float64{nan, -nan, math.Float64frombits(0x7ff0000000000001), math.Float64frombits(0xffffffffffffffff)} {
		for _, missing := range []api.Side{api.SideNone, left, right, 3, 255} {
			for _, n := range []api.Node{
				{Kind: api.NodeNumber}, {Kind: api.NodeNumber, Threshold: endless}, {Kind: api.NodeNumber, Threshold: -endless}, {Kind: api.NodeNumber, Threshold: nan},
				{Kind: api.NodeCats}, {Kind: api.NodeCats, Cats: []int{0, 1, 2}},
			} {
				n.Missing = missing
				if s := Goes(n, x); s != missing {
					t.Errorf("7.3: NaN at %v: %d", n, s)
				}
			}
		}
	}
}

func TestGoesAmongCategories(t *testing.T) {
	n := api.Node{Kind: api.NodeCats, Cats: []int{0, 3, 1023}, Missing: right}
	for _, x := range []float64{0, minus0, 3, 1023} {
		if Goes(n, x) != left {
			t.Error("7.3: not among them:", x)
		}
	}
	for _, x := range []float64{1, -3, 2.9999999999999996, 3.0000000000000004, 0.5, -0.5, 5e-324, 1022, 1024, endless, -endless} {
		if Goes(n, x) != right {
			t.Error("7.3: among them:", x)
		}
	}
	n.Missing = left // only of NaN
	if Goes(n, 1) != right {
		t.Error("7.3: Missing is of NaN alone")
	}
	if Goes(api.Node{Kind: api.NodeCats, Missing: left}, 0) != right {
		t.Error("7.3: no categories")
	}
	// Hand-made ones: in no order, below nought, such as float64 has no room for.
	odd := api.Node{Kind: api.NodeCats, Cats: []int{9, -4, 9, 5, 1<<53 + 1, math.MinInt}, Threshold: 3, Value: 8}
	for x, want := range map[float64]api.Side{9: left, -4: left, 5: left, 1 << 53: left, 1<<53 + 2: right, -(1 << 63): left, 1 << 63: right, 3: right, 8: right, 0: right} {
		if Goes(odd, x) != want {
			t.Error("7.3:", x)
		}
	}
}

func TestGoesOfNoInnerNode(t *testing.T) {
	for _, kind := range []api.NodeKind{api.NodeNone, api.NodeLeaf, api.NodeCount, 77, 255} {
		for _, x := range []float64{0, 1, nan, endless, -endless} {
			if s := Goes(api.Node{Kind: kind, Threshold: 5, Cats: []int{1}, Missing: left, Left: 1, Right: 2}, x); s != api.SideNone {
				t.Errorf("7.3: kind %d: %d", kind, s)
			}
		}
	}
	if Goes(api.Node{Kind: api.NodeNumber, Threshold: minus0}, 0) != left || Goes(api.Node{Kind: api.NodeNumber, Threshold: endless, Missing: right}, nan) != right || Goes(api.Node{Kind: api.NodeLeaf}, 1) != api.SideNone {
		t.Error("7.3: example 5")
	}
	if Goes(api.Node{Kind: api.NodeNumber, Threshold: 1, Feature: -9, Left: -1, Right: 1 << 40, Cats: []int{2}, Value: 3}, 1) != left {
		t.Error("7.3: whatever else it says")
	}
}

func TestScores(t *testing.T) {
	e := api.Ensemble{Features: []string{"a", "b"}, Outputs: 2, Base: []int64{1, 2}, Trees: []api.Tree{grown(), grown(), treeOf(leafOf(-100))}}
	e.Trees[1].Output = 1
	if s, why := Score(e, []float64{2, 0.5}); why != api.OK || !slices.Equal(s, []int64{-79, 22}) {
		t.Error("7.5:", s, why)
	}
	if s, why := Score(e, []float64{nan, nan}); why != api.OK || !slices.Equal(s, []int64{-69, 32}) {
		t.Error("7.5:", s, why)
	}
	bare := api.Ensemble{Outputs: 1, Base: []int64{5}}
	if s, why := Score(bare, nil); why != api.OK || !slices.Equal(s, []int64{5}) {
		t.Error("7.5: no trees, no features:", s, why)
	}
	bare.Base[0], bare.Trees = math.MaxInt64, []api.Tree{treeOf(leafOf(2)), treeOf(leafOf(math.MinInt64))}
	if s, why := Score(bare, []float64{}); why != api.OK || !slices.Equal(s, []int64{1}) {
		t.Error("7.5: modulo 2^64:", s, why)
	}
	bare.Trees = bare.Trees[:1]
	if s, why := Score(bare, nil); why != api.OK || !slices.Equal(s, []int64{math.MinInt64 + 1}) {
		t.Error("7.5: modulo 2^64:", s, why)
	}
}

// faults are what can be wrong with an ensemble and a vector of two numbers, in the order in which it is told.
func faults() []struct {
	why  api.Errno
	bend func(e *api.Ensemble)
} {
	type fault = struct {
		why  api.Errno
		bend func(e *api.Ensemble)
	}
	l := []fault{
		{api.ErrSize, func(e *api.Ensemble) { e.Outputs, e.Base = 0, nil }},
		{api.ErrVector, func(e *api.Ensemble) { e.Features = append(e.Features, "more") }},
	}
	for i := range 2 {
		l = append(l,
			fault{api.ErrSplit, func(e *api.Ensemble) { e.Trees[i].Nodes[2].Missing = 0 }},
			fault{api.ErrShape, func(e *api.Ensemble) { e.Trees[i].Nodes = append(e.Trees[i].Nodes, leafOf(1)) }},
			fault{api.ErrSize, func(e *api.Ensemble) { e.Trees[i].Output = 2 }},
			fault{api.ErrVector, func(e *api.Ensemble) { e.Trees[i].Nodes[2].Feature = 2 }})
	}
	return l
}

func TestFirstErrorOfScore(t *testing.T) {
	all := faults()
	for i, a := range all {
		for _, b := range all[i:] {
			e := api.Ensemble{Features: []string{"a", "b"}, Outputs: 2, Base: []int64{1, 2}, Trees: []api.Tree{grown(), grown()}}
			b.bend(&e)
			a.bend(&e)
			if s, why := Score(e, []float64{0, 1}); why != a.why || s != nil {
				t.Errorf("7.5: fault %d: %v, %d, not %d", i, s, why, a.why)
			}
		}
	}
}

func TestSizesOfScore(t *testing.T) {
	for outputs := -2; outputs <= 4; outputs++ {
		for base := range 4 {
			e := api.Ensemble{Features: []string{"a"}, Outputs: outputs, Base: make([]int64, base)}
			s, why := Score(e, []float64{1})
			if outputs >= 1 && base == outputs {
				if why != api.OK || len(s) != outputs {
					t.Errorf("7.5: %d outputs: %v, %d", outputs, s, why)
				}
			} else if why != api.ErrSize || s != nil {
				t.Errorf("7.5: %d outputs, %d in Base: %v, %d", outputs, base, s, why)
			}
		}
	}
	e := api.Ensemble{Features: []string{"a", "b"}, Outputs: 1, Base: []int64{0}, Trees: []api.Tree{grown()}}
	for many := range 5 {
		if _, why := Score(e, make([]float64, many)); (why == api.OK) != (many == 2) || why != api.OK && why != api.ErrVector {
			t.Errorf("7.5: %d numbers: %d", many, why)
		}
	}
	for output := -2; output < 3; output++ {
		e.Trees[0].Output = output
		if _, why := Score(e, []float64{0, 0}); (why == api.OK) != (output == 0) || why != api.OK && why != api.ErrSize {
			t.Errorf("7.5: output %d: %d", output, why)
		}
	}
	for _, output := range []int{math.MinInt, math.MaxInt} {
		e.Trees[0].Output = output
		if _, why := Score(e, []float64{0, 0}); why != api.ErrSize {
			t.Errorf("7.5: output %d: %d", output, why)
		}
	}
}

func TestScoresOfAnyEnsembles(t *testing.T) {
	r := source()
	for range 300 {
		e := someEnsemble(r, r.IntN(6))
		m, why := Model(e)
		if why != api.OK {
			t.Fatal("7.6:", why)
		}
		mixed := Copy(e)
		r.Shuffle(len(mixed.Trees), func(i, j int) { mixed.Trees[i], mixed.Trees[j] = mixed.Trees[j], mixed.Trees[i] })
		for range 20 {
			x := someVector(r, 4)
			want := slices.Clone(e.Base)
			for _, g := range e.Trees {
				_, v, _ := Leaf(g, x)
				want[g.Output] += v
			}
			for which, f := range []api.Ensemble{e, m, mixed} {
				if s, why := Score(f, x); why != api.OK || !slices.Equal(s, want) {
					t.Fatalf("7.5, 7.9, 7.10: ensemble %d at %v: %v, %d, not %v", which, x, s, why, want)
				}
			}
		}
	}
}

package cells

import (
	"math"
	"math/big"
	"math/rand/v2"
	"slices"
	"testing"

	"thicket/api"
	"thicket/slim"
	"thicket/trees"
)

// A second opinion, from the chapter's words.

// pointsByWords are a feature's points, by comparing numbers.
func pointsByWords(l []api.Ensemble, feature int) []float64 {
	var marks []float64
	asked := false
	for _, e := range l {
		for _, g := range e.Trees {
			for _, n := range g.Nodes {
				if n.Kind == api.NodeLeaf || n.Feature != feature {
					continue
				}
				asked = true
				if n.Kind == api.NodeNumber {
					marks = append(marks, n.Threshold+0)
				}
				for _, c := range n.Cats {
					marks = append(marks, float64(c))
				}
			}
		}
	}
	if !asked {
		return []float64{0}
	}
	points := []float64{-endless}
	for _, v := range marks {
		points = append(points, v)
		if v < endless {
			points = append(points, next(v))
		}
	}
	slices.Sort(points)
	return append(slices.Compact(points), nan)
}

// pointsIn are the points in a span.
func pointsIn(points []float64, s api.Span) []float64 {
	var l []float64
	if s.Low <= s.High {
		l = append(l, s.Low+0)
		for _, v := range points {
			if v > s.Low && v <= s.High {
				l = append(l, v)
			}
		}
	}
	if s.Lost {
		l = append(l, nan)
	}
	return l
}

// allOf are all vectors of some points, in the order of cells.
func allOf(points [][]float64) [][]float64 {
	l := [][]float64{nil}
	for _, p := range points {
		var longer [][]float64
		for _, x := range l {
			for _, v := range p {
				longer = append(longer, append(slices.Clone(x), v))
			}
		}
		l = longer
	}
	return l
}

func gridByWords(l ...api.Ensemble) [][]float64 {
	var points [][]float64
	for feature := range l[0].Features {
		points = append(points, pointsByWords(l, feature))
	}
	return points
}

// boxByWords are the vectors of the points in a box.
func boxByWords(b []api.Span, l ...api.Ensemble) [][]float64 {
	points := gridByWords(l...)
	for feature, s := range b {
		points[feature] = pointsIn(points[feature], s)
	}
	return allOf(points)
}

// treeAlone is an ensemble of a tree, over so many features.
func treeAlone(g api.Tree, features int) api.Ensemble {
	g.Output = 0
	return ensemble(features, g)
}

// witnessByWords is, of each feature, the first point in its span that goes to the leaf's side at each node on the way.
func witnessByWords(g api.Tree, b []api.Span, place int) ([]float64, bool) {
	leaves, _ := trees.Leaves(g)
	above := map[int]int{}
	for i, n := range g.Nodes {
		above[n.Left], above[n.Right] = i, i
	}
	x := make([]float64, len(b))
	for feature, s := range b {
		found := false
		for _, v := range pointsIn(pointsByWords(from(treeAlone(g, len(b))), feature), s) {
			goes := true
			for i := leaves[place]; i != 0; i = above[i] {
				n := g.Nodes[above[i]]
				side := right
				if n.Left == i {
					side = left
				}
				goes = goes && (n.Feature != feature || trees.Goes(n, v) == side)
			}
			if goes {
				x[feature], found = v, true
				break
			}
		}
		if !found {
			return nil, false
		}
	}
	return x, true
}

func someThreshold(r *rand.Rand) float64 {
	v := []float64{0, minus0, 1, 2, 3, 4, -1, 0.5, endless, -endless}[r.IntN(10)]
	switch r.IntN(5) {
	case 0:
		return math.Nextafter(v, endless)
	case 1:
		return math.Nextafter(v, -endless)
	}
	return v
}

func someCats(r *rand.Rand) []int {
	var l []int
	for _, c := range []int{0, 1, 2, 3, 4, 1023} {
		if r.IntN(3) == 0 {
			l = append(l, c)
		}
	}
	if len(l) == 0 {
		return []int{r.IntN(6)}
	}
	return l
}

// someTree is a right tree whose nodes are numbered at random.
func someTree(r *rand.Rand, inner, features int) api.Tree {
	nodes := []api.Node{leafOf(r.Int64N(9) - 4)}
	for range inner {
		i := r.IntN(len(nodes))
		for nodes[i].Kind != api.NodeLeaf {
			i = r.IntN(len(nodes))
		}
		n := numberOf(r.IntN(features), someThreshold(r), api.Side(1+r.IntN(2)))
		if r.IntN(3) == 0 {
			n = catsOf(n.Feature, n.Missing, someCats(r)...)
		}
		n.Left, n.Right = len(nodes), len(nodes)+1
		if r.IntN(2) == 0 {
			n.Left, n.Right = n.Right, n.Left
		}
		nodes[i] = n
		nodes = append(nodes, leafOf(r.Int64N(9)-4), leafOf(r.Int64N(9)-4))
	}
	return api.Tree{Output: r.IntN(2), Nodes: nodes}
}

func someEnsemble(r *rand.Rand, many, features int) api.Ensemble {
	e := ensemble(features)
	e.Outputs, e.Base = 2, []int64{r.Int64N(9) - 4, r.Int64N(9)}
	for range many {
		e.Trees = append(e.Trees, someTree(r, r.IntN(7), features))
	}
	return e
}

// someSpan is one that may be anything; someBox has no empty one.
func someSpan(r *rand.Rand) api.Span {
	s := api.Span{Low: someThreshold(r), High: someThreshold(r), Lost: r.IntN(3) == 0}
	switch r.IntN(8) {
	case 0:
		s.Low = -endless
	case 1:
		s.High = endless
	case 2:
		s.Low = s.High
	case 3:
		s.Low, s.High = []float64{nan, s.Low}[r.IntN(2)], []float64{nan, s.High}[r.IntN(2)]
	case 4:
		s.Low, s.High = -endless, endless
	}
	return s
}

func someBox(r *rand.Rand, features int) []api.Span {
	var b []api.Span
	for range features {
		s := someSpan(r)
		for !s.Lost && !(s.Low <= s.High) {
			s = someSpan(r)
		}
		b = append(b, s)
	}
	return b
}

// someVector is one of a box; of no box at all any one.
func someVector(r *rand.Rand, b []api.Span) []float64 {
	var x []float64
	for _, s := range b {
		l := pointsIn([]float64{-endless, -2, -1, prev(0), 0, minus0, 5e-324, 0.5, prev(1), 1, next(1), 1.5, 2, next(2), 2.5, 3, 3.5, prev(4), 4, next(4), 1022, 1023, 1024, endless}, s)
		if s.Low <= s.High {
			l = append(l, s.Low, s.High)
			if v := math.Float64frombits(r.Uint64()); v >= s.Low && v <= s.High {
				l = append(l, v)
			}
		}
		x = append(x, l[r.IntN(len(l))])
	}
	return x
}

func everywhere(features int) []api.Span {
	return slices.Repeat(box(lost(-endless, endless)), features)
}

func TestSomePoints(t *testing.T) {
	r := source()
	for range 2000 {
		var l []api.Ensemble
		features := 1 + r.IntN(3)
		for range 1 + r.IntN(3) {
			l = append(l, someEnsemble(r, r.IntN(4), features))
		}
		product := big.NewInt(1)
		for feature := range features {
			want := pointsByWords(l, feature)
			isPoints(t, "some ensembles", l, feature, want...)
			product.Mul(product, big.NewInt(int64(len(want))))
		}
		isCells(t, "some ensembles", l, product.String())
		if t.Failed() {
			t.Fatal(l)
		}
	}
}

// changed is an ensemble that may say something else.
func changed(r *rand.Rand, e api.Ensemble) api.Ensemble {
	e = trees.Copy(e)
	for range r.IntN(3) {
		if len(e.Trees) == 0 {
			break
		}
		g := e.Trees[r.IntN(len(e.Trees))]
		n := &g.Nodes[r.IntN(len(g.Nodes))]
		switch {
		case n.Kind == api.NodeLeaf:
			n.Value += r.Int64N(3) - 1
		case r.IntN(3) == 0:
			n.Missing = left + right - n.Missing
		case n.Kind == api.NodeNumber:
			n.Threshold = someThreshold(r)
		default:
			n.Cats = someCats(r)
		}
	}
	if r.IntN(2) == 0 {
		r.Shuffle(len(e.Trees), func(i, j int) { e.Trees[i], e.Trees[j] = e.Trees[j], e.Trees[i] })
	}
	return e
}

func TestSomeEqual(t *testing.T) {
	r := source()
	equal, apart := 0, 0
	for range 1500 {
		features := 1 + r.IntN(2)
		a := someEnsemble(r, r.IntN(3), features)
		b := changed(r, a)
		var want []float64
		for _, x := range allOf(gridByWords(a, b)) {
			l, _ := trees.Score(a, x)
			if m, _ := trees.Score(b, x); !slices.Equal(l, m) {
				want = x
				break
			}
		}
		if want != nil {
			apart++
			isUnequal(t, "some ensembles", a, b, want...)
		} else {
			equal++
			isEqual(t, "some ensembles", a, b)
			for range 40 { // 23.6: no vector at all tells them apart
				x := someVector(r, everywhere(features))
				l, _ := trees.Score(a, x)
				if m, _ := trees.Score(b, x); !slices.Equal(l, m) {
					t.Fatalf("23.6: %v tells apart %v and %v", x, a, b)
				}
			}
		}
		if t.Failed() {
			t.Fatal(a, b)
		}
	}
	if equal < 300 || apart < 300 {
		t.Error("few of these are equal, or few are not:", equal, apart)
	}
}

// 23.6: for each vector there is a cell that goes the same way in each tree.
func TestCellsAreEnough(t *testing.T) {
	r := source()
	for range 300 {
		features := 1 + r.IntN(2)
		l := from(someEnsemble(r, 1+r.IntN(2), features), someEnsemble(r, r.IntN(2), features))
		var points [][]float64
		for feature := range features {
			points = append(points, Points(l, feature))
		}
		ways := func(x []float64) (all []int) {
			for _, e := range l {
				for _, g := range e.Trees {
					way, _ := trees.Way(g, x)
					all = append(all, way...)
				}
			}
			return all
		}
		var known [][]int
		for _, x := range allOf(points) {
			known = append(known, ways(x))
		}
		for range 20 {
			x := someVector(r, everywhere(features))
			way := ways(x)
			if !slices.ContainsFunc(known, func(w []int) bool { return slices.Equal(w, way) }) {
				t.Fatalf("23.6: no cell goes the ways of %v in %v", x, l)
			}
		}
	}
}

func TestSomeReached(t *testing.T) {
	r := source()
	dead := 0
	for range 4000 {
		features := 1 + r.IntN(3)
		g := someTree(r, r.IntN(10), features)
		b := someBox(r, features+r.IntN(2))
		leaves, _ := trees.Leaves(g)
		var want []bool
		for place := range leaves {
			x, ok := witnessByWords(g, b, place)
			want = append(want, ok)
			if ok {
				isWitness(t, "some tree", g, b, place, x...)
			} else {
				dead++
				noWitness(t, "some tree", g, b, place, api.ErrEmpty)
			}
		}
		isReached(t, "some tree", g, b, want...)
		for range 20 {
			x := someVector(r, b)
			if place, _, why := trees.Leaf(g, x); why != api.OK || !want[place] {
				t.Fatalf("23.3: %v comes to leaf %d of %v in %v: %d", x, place, g, b, why)
			}
		}
		if t.Failed() {
			t.Fatal(g, b)
		}
	}
	if dead < 2000 {
		t.Error("few leaves are not reached:", dead)
	}
}

// That numbers of two features have nothing to do with one another is not taken for granted.
func TestAllVectors(t *testing.T) {
	r := source()
	for range 300 {
		g := someTree(r, r.IntN(8), 2)
		b := someBox(r, 2)
		leaves, _ := trees.Leaves(g)
		want := make([]bool, len(leaves))
		for _, x := range boxByWords(b, treeAlone(g, 2)) {
			place, _, _ := trees.Leaf(g, x)
			want[place] = true
		}
		isReached(t, "all vectors", g, b, want...)
	}
}

// All trees of two nodes that ask for one feature, over a few thresholds, categories and spans.
func TestAllPairs(t *testing.T) {
	var nodes []api.Node
	for _, missing := range []api.Side{left, right} {
		for _, v := range []float64{-endless, minus0, next(0), prev(2), 2, next(2), endless} {
			nodes = append(nodes, numberOf(0, v, missing))
		}
		for _, cats := range [][]int{{0}, {2}, {0, 2, 1023}} {
			nodes = append(nodes, catsOf(0, missing, cats...))
		}
	}
	var spans []api.Span
	for _, low := range []float64{-endless, 0, prev(2), 2, next(2), endless} {
		for _, high := range []float64{-endless, minus0, 2, next(2), endless} {
			spans = append(spans, lost(low, high))
			if low <= high {
				spans = append(spans, span(low, high))
			}
		}
	}
	for _, n := range nodes {
		for _, m := range nodes {
			g := over(n, over(m, leaf(1), leaf(2)), over(m, leaf(3), leaf(4)))
			for _, s := range spans {
				var want []bool
				for place := range 4 {
					_, ok := witnessByWords(g, box(s), place)
					want = append(want, ok)
				}
				isReached(t, "a pair", g, box(s), want...)
			}
		}
	}
}

// boundsByWords go by the leaves that have a witness; extremesByWords, by all vectors of the points in a box.
func boundsByWords(e api.Ensemble, b []api.Span) ([]int64, []int64) {
	low, high := slices.Clone(e.Base), slices.Clone(e.Base)
	for _, g := range e.Trees {
		var l []int64
		leaves, _ := trees.Leaves(g)
		for place, i := range leaves {
			if _, ok := witnessByWords(g, b, place); ok {
				l = append(l, g.Nodes[i].Value)
			}
		}
		low[g.Output] += slices.Min(l)
		high[g.Output] += slices.Max(l)
	}
	return low, high
}

func extremesByWords(e api.Ensemble, b []api.Span) ([]int64, []int64) {
	var low, high []int64
	for _, x := range boxByWords(b, e) {
		l, _ := trees.Score(e, x)
		if low == nil {
			low, high = slices.Clone(l), slices.Clone(l)
		}
		for i, v := range l {
			low[i], high[i] = min(low[i], v), max(high[i], v)
		}
	}
	return low, high
}

// narrower is a box within another one.
func narrower(r *rand.Rand, b []api.Span) []api.Span {
	inner := slices.Clone(b)
	for i, s := range inner {
		s.Lost = s.Lost && r.IntN(2) == 0
		if r.IntN(2) == 0 {
			s.Low, s.High = max(s.Low, someThreshold(r)), min(s.High, someThreshold(r))
		}
		if s.Lost || s.Low <= s.High {
			inner[i] = s
		}
	}
	return inner
}

// liesWithin tells whether each number is from low to high.
func liesWithin(l, low, high []int64) bool {
	for i, v := range l {
		if v < low[i] || v > high[i] {
			return false
		}
	}
	return true
}

func TestSomeBounds(t *testing.T) {
	r := source()
	differ := 0
	for range 1500 {
		features := 1 + r.IntN(2)
		e := someEnsemble(r, r.IntN(4), features)
		b := someBox(r, features)
		low, high := boundsByWords(e, b)
		least, greatest := extremesByWords(e, b)
		isBounds(t, "some ensemble", e, b, low, high, least, greatest)
		if !slices.Equal(low, least) || !slices.Equal(high, greatest) {
			differ++
		}
		if !liesWithin(least, low, high) || !liesWithin(greatest, low, high) {
			t.Errorf("23.7: extremes %v, %v beyond %v, %v", least, greatest, low, high)
		}
		for range 20 {
			x := someVector(r, b)
			if l, _ := trees.Score(e, x); !liesWithin(l, least, greatest) {
				t.Errorf("23.7: %v of %v lies beyond %v, %v", l, x, least, greatest)
			}
		}
		inner := narrower(r, b)
		a, c, why := Bounds(e, inner)
		f, g, no := Extremes(e, inner)
		if why != api.OK || no != api.OK || !liesWithin(a, low, high) || !liesWithin(c, low, high) || !liesWithin(f, least, greatest) || !liesWithin(g, least, greatest) {
			t.Errorf("23.8: %v within %v: %v, %v, %v, %v", inner, b, a, c, f, g)
		}
		for _, tree := range e.Trees {
			few, _ := Reached(tree, inner)
			many, _ := Reached(tree, b)
			for place, comes := range few {
				if comes && !many[place] {
					t.Errorf("23.8: %v within %v: leaf %d", inner, b, place)
				}
			}
			one := treeAlone(tree, features)
			l, m, _ := Bounds(one, b)
			if p, q, _ := Extremes(one, b); !slices.Equal(l, p) || !slices.Equal(m, q) {
				t.Errorf("23.7: of one tree: %v, %v and %v, %v", l, m, p, q)
			}
		}
		if t.Failed() {
			t.Fatal(e, b)
		}
	}
	if differ < 100 {
		t.Error("few of these have other bounds than extremes:", differ)
	}
}

// What was slimmed is the same function; with one leaf turned, where a vector comes to it, it is another one.
func TestSlimmed(t *testing.T) {
	r := source()
	for range 300 {
		e := someEnsemble(r, 1+r.IntN(3), 1+r.IntN(2))
		s, why := slim.Slim(e)
		if why != api.OK {
			t.Fatal(why)
		}
		isEqual(t, "P12: slimmed", e, s)
		for i, g := range s.Trees {
			leaves, _ := trees.Leaves(g)
			other := trees.Copy(s)
			other.Trees[i].Nodes[leaves[r.IntN(len(leaves))]].Value++
			if ok, x, why := Equal(e, other); why != api.OK || ok || len(x) != len(e.Features) {
				t.Fatalf("P12: %v and %v: %v, %v, %d", e, other, ok, x, why)
			}
		}
	}
}

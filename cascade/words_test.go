package cascade

import (
	"cmp"
	"math"
	"math/big"
	"math/rand/v2"
	"slices"
	"testing"

	"thicket/api"
	"thicket/trees"
)

// A second opinion, from the chapter's words, in whole numbers of any size.

// ends are the least and the greatest value of a tree's leaves.
func ends(g api.Tree) (*big.Int, *big.Int) {
	var l []int64
	for _, n := range g.Nodes {
		if n.Kind == api.NodeLeaf {
			l = append(l, n.Value)
		}
	}
	return big.NewInt(slices.Min(l)), big.NewInt(slices.Max(l))
}

// boundsByWords are the spans behind n trees.
func boundsByWords(e api.Ensemble, x []float64, n int) []api.Bound {
	var l []api.Bound
	for output, v := range e.Base {
		low, high := big.NewInt(v), big.NewInt(v)
		for i, g := range e.Trees {
			if g.Output != output {
				continue
			}
			least, greatest := ends(g)
			if i < n {
				_, v, _ := trees.Leaf(g, x)
				least, greatest = big.NewInt(v), big.NewInt(v)
			}
			low.Add(low, least)
			high.Add(high, greatest)
		}
		if !low.IsInt64() || !high.IsInt64() {
			panic("a span that int64 does not say")
		}
		l = append(l, api.Bound{Low: low.Int64(), High: high.Int64()})
	}
	return l
}

// isCertain tells whether an output has the greatest score, the first of such, by spans.
func isCertain(l []api.Bound, output int) bool {
	for other, b := range l {
		if other < output && !(l[output].Low > b.High) || other > output && !(l[output].Low >= b.High) {
			return false
		}
	}
	return true
}

// topByWords is the chapter's way, with closed ones kept: the answer by scores, and how many times a tree is asked.
func topByWords(e api.Ensemble, l [][]float64, output, k int) ([]int, int) {
	var first []int
	score := map[int]int64{}
	for i, x := range l {
		first = append(first, i)
		s, _ := trees.Score(e, x)
		score[i] = s[output]
	}
	slices.SortStableFunc(first, func(a, b int) int { return cmp.Compare(score[b], score[a]) })
	if k == 0 {
		return nil, 0
	}
	asked, many := make([]int, len(l)), 0
	open := slices.Repeat([]bool{true}, len(l))
	for range e.Trees {
		var spans []api.Bound
		for i, x := range l {
			if open[i] {
				asked[i]++
				many++
			}
			spans = append(spans, boundsByWords(e, x, asked[i])[output])
		}
		var shut []int
		for i := range l {
			ahead := 0
			for j := range l {
				if j != i && (spans[j].Low > spans[i].High || spans[j].Low == spans[i].High && j < i) {
					ahead++
				}
			}
			if open[i] && ahead >= k {
				shut = append(shut, i)
			}
		}
		for _, i := range shut {
			open[i] = false
		}
	}
	return first[:min(k, len(first))], many
}

func someNumber(r *rand.Rand) float64 {
	switch r.IntN(9) {
	case 0:
		return nan
	case 1:
		return math.Float64frombits(r.Uint64())
	}
	return []float64{0, minus0, 1, 2, 3, 0.5, 1.5, -1, endless, -endless}[r.IntN(10)]
}

// someTree is a right tree over two features.
func someTree(r *rand.Rand, inner, outputs int) api.Tree {
	value := func() api.Node { return leafOf(r.Int64N(1<<r.IntN(6)) - r.Int64N(1<<r.IntN(6))) }
	nodes := []api.Node{value()}
	for range inner {
		i := r.IntN(len(nodes))
		for nodes[i].Kind != api.NodeLeaf {
			i = r.IntN(len(nodes))
		}
		n := api.Node{Kind: api.NodeNumber, Feature: r.IntN(2), Missing: api.Side(1 + r.IntN(2)), Left: len(nodes) + 1, Right: len(nodes)}
		for n.Threshold = someNumber(r); math.IsNaN(n.Threshold); {
			n.Threshold = someNumber(r)
		}
		if r.IntN(3) == 0 {
			n.Kind, n.Threshold, n.Cats = api.NodeCats, 0, [][]int{{0}, {1, 3}, {0, 2}, {1023}}[r.IntN(4)]
		}
		nodes[i] = n
		nodes = append(nodes, value(), value())
	}
	return api.Tree{Output: r.IntN(outputs), Nodes: nodes}
}

func someEnsemble(r *rand.Rand, many, outputs int) api.Ensemble {
	e := ensemble(outputs)
	e.Features = []string{"a", "b"}
	for i := range e.Base {
		e.Base[i] = r.Int64N(20) - 10
	}
	for range many {
		e.Trees = append(e.Trees, someTree(r, r.IntN(5), outputs))
	}
	return e
}

func someVector(r *rand.Rand) []float64 { return []float64{someNumber(r), someNumber(r)} }

// isVector holds all that is said of a vector to the words.
func isVector(t *testing.T, e api.Ensemble, x []float64, limits ...int64) {
	t.Helper()
	score, _ := trees.Score(e, x)
	var spans [][]api.Bound
	for n := range len(e.Trees) + 1 {
		l, why := Bounds(e, x, n)
		if why != api.OK || !slices.Equal(l, boundsByWords(e, x, n)) {
			t.Errorf("P24.1: behind %d of %v: %v, %d", n, x, l, why)
		}
		for output, b := range l {
			if score[output] < b.Low || score[output] > b.High || n == len(e.Trees) && b.Low != b.High {
				t.Errorf("P24.7: behind %d: %v, score %v", n, l, score)
			}
			if n > 0 && (b.Low < spans[n-1][output].Low || b.High > spans[n-1][output].High) {
				t.Errorf("P24.7: behind %d: %v is not within %v", n, l, spans[n-1])
			}
		}
		spans = append(spans, l)
	}
	for output, v := range score {
		for _, l := range spans {
			limits = append(limits, l[output].Low-1, l[output].Low, l[output].Low+1, l[output].High-1, l[output].High, l[output].High+1)
		}
		for _, limit := range limits {
			n := slices.IndexFunc(spans, func(l []api.Bound) bool { return l[output].Low > limit || l[output].High <= limit })
			isAbove(t, "some vector", e, x, output, limit, v > limit, n)
		}
	}
	class := slices.Index(score, slices.Max(score))
	n := slices.IndexFunc(spans, func(l []api.Bound) bool { return isCertain(l, class) })
	isClass(t, "some vector", e, x, class, n)
}

func TestSomeVectors(t *testing.T) {
	r := source()
	early := 0
	for range 400 {
		e := someEnsemble(r, r.IntN(7), 1+r.IntN(4))
		for range 5 {
			x := someVector(r)
			isVector(t, e, x, math.MinInt64, math.MaxInt64, 0)
			if _, n, _ := Class(e, x); n > 0 && n < len(e.Trees) {
				early++
			}
		}
		if t.Failed() {
			t.Fatal(e)
		}
	}
	if early < 300 {
		t.Error("few of these are decided on the way:", early)
	}
}

func TestSomeTops(t *testing.T) {
	r := source()
	spared := 0
	for range 1500 {
		e := someEnsemble(r, r.IntN(6), 1+r.IntN(2))
		var l [][]float64
		for range r.IntN(9) {
			l = append(l, someVector(r))
		}
		output := r.IntN(e.Outputs)
		for k := range len(l) + 2 {
			want, many := topByWords(e, l, output, k)
			isTop(t, "some vectors", e, l, output, k, many, want...)
			if many > len(e.Trees)*len(l) {
				t.Error("P24.8: more than all trees are asked")
			}
			if k > 0 && many < len(e.Trees)*len(l) {
				spared++
			}
		}
		if t.Failed() {
			t.Fatal(e, l, output)
		}
	}
	if spared < 1000 {
		t.Error("few of these spare a tree:", spared)
	}
}

// Many vectors, more than a sort takes for few.
func TestManyVectors(t *testing.T) {
	r := source()
	for range 3 {
		e := someEnsemble(r, 8, 2)
		var l [][]float64
		for range 150 {
			l = append(l, someVector(r))
		}
		for _, k := range []int{1, 2, 7, 75, 149, 150, 151} {
			want, many := topByWords(e, l, 1, k)
			isTop(t, "many vectors", e, l, 1, k, many, want...)
		}
	}
}

// orders are all orders of n things.
func orders(n int) [][]int {
	l := [][]int{nil}
	for i := range n {
		var longer [][]int
		for _, o := range l {
			for at := range len(o) + 1 {
				longer = append(longer, slices.Insert(slices.Clone(o), at, i))
			}
		}
		l = longer
	}
	return l
}

func TestSomeOrders(t *testing.T) {
	r := source()
	for range 150 {
		e := someEnsemble(r, r.IntN(6), 1+r.IntN(2))
		plan, why := Plan(e)
		want := make([]int, len(e.Trees))
		for i := range want {
			want[i] = i
		}
		width := func(i int) *big.Int {
			least, greatest := ends(e.Trees[i])
			return new(big.Int).Sub(greatest, least)
		}
		slices.SortStableFunc(want, func(a, b int) int { return width(b).Cmp(width(a)) })
		if why != api.OK || !slices.Equal(plan, want) {
			t.Fatalf("P24.5: Plan: %v, %d, not %v of %v", plan, why, want, e)
		}
		planned, why := Order(e, plan)
		if why != api.OK {
			t.Fatal("P24.5: Order by Plan:", why)
		}
		x := someVector(r)
		score, _ := trees.Score(e, x)
		for _, l := range orders(len(e.Trees)) {
			other, why := Order(e, l)
			if s, no := trees.Score(other, x); why != api.OK || no != api.OK || !slices.Equal(s, score) {
				t.Fatalf("P24.9: ordered by %v: %v, not %v", l, s, score)
			}
			if e.Outputs > 1 {
				continue
			}
			for n := range len(e.Trees) + 1 {
				a, _ := Bounds(planned, x, n)
				if b, _ := Bounds(other, x, n); a[0].High-a[0].Low > b[0].High-b[0].Low {
					t.Fatalf("P24.9: behind %d: %v by plan, %v by %v", n, a, b, l)
				}
			}
		}
	}
}

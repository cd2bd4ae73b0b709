package bins

import (
	"fmt"
	"math"
	"math/rand/v2"
	"slices"
	"sort"
	"testing"

	"thicket/api"
	"thicket/order"
	"thicket/rules"
	"thicket/trees"
)

// A second opinion, from the chapter's words.

func ofByWords(e api.Ensemble) api.Bins {
	b := api.Bins{Cuts: make([][]float64, len(e.Features)), Cats: make([][]int, len(e.Features))}
	for i := range e.Features {
		for _, g := range e.Trees {
			for _, n := range g.Nodes {
				if n.Feature != i {
					continue
				}
				if n.Kind == api.NodeNumber && !slices.Contains(b.Cuts[i], n.Threshold) {
					b.Cuts[i] = append(b.Cuts[i], n.Threshold+0) // 0 of -0
				}
				if n.Kind == api.NodeCats {
					for _, c := range n.Cats {
						if !slices.Contains(b.Cats[i], c) {
							b.Cats[i] = append(b.Cats[i], c)
						}
					}
				}
			}
		}
		sort.Float64s(b.Cuts[i])
		sort.Ints(b.Cats[i])
	}
	return b
}

func rightByWords(b api.Bins) bool {
	if len(b.Cuts) != len(b.Cats) || len(b.Cuts) == 0 || len(b.Cuts) > 65536 {
		return false
	}
	for i, cuts := range b.Cuts {
		for k, v := range cuts {
			if v != v || math.Float64bits(v) == 1<<63 || k > 0 && !(cuts[k-1] < v) {
				return false
			}
		}
		for k, c := range b.Cats[i] {
			if c < 0 || c > 1023 || k > 0 && !(b.Cats[i][k-1] < c) {
				return false
			}
		}
	}
	return true
}

func codeByWords(b api.Bins, feature int, v float64) api.Code {
	if v != v {
		return api.Code{Bin: 0, Cat: -1, Lost: true}
	}
	return api.Code{Bin: order.Below(b.Cuts[feature], v), Cat: slices.IndexFunc(b.Cats[feature], func(c int) bool { return float64(c) == v })}
}

// pointByWords is a number, and whether there is one.
func pointByWords(b api.Bins, feature int, c api.Code) (float64, bool) {
	cuts, cats := b.Cuts[feature], b.Cats[feature]
	if c.Lost {
		return nan, c.Bin == 0 && c.Cat == -1
	}
	if c.Bin < 0 || c.Bin > len(cuts) || c.Cat < -1 || c.Cat >= len(cats) {
		return 0, false
	}
	var tried []float64
	if c.Cat >= 0 {
		tried = []float64{float64(cats[c.Cat])}
	} else {
		if c.Bin < len(cuts) {
			tried = append(tried, cuts[c.Bin])
			if !math.IsInf(cuts[c.Bin], -1) {
				tried = append(tried, math.Nextafter(cuts[c.Bin], -endless))
			}
		}
		if c.Bin > 0 && !math.IsInf(cuts[c.Bin-1], 1) {
			tried = append(tried, math.Nextafter(cuts[c.Bin-1], endless)+0)
		}
		if len(cuts) == 0 {
			tried = append(tried, 0)
		}
	}
	for _, v := range tried {
		if codeByWords(b, feature, v) == c {
			return v, true
		}
	}
	return 0, false
}

func compileByWords(e api.Ensemble) api.Binned {
	m := api.Binned{Bins: ofByWords(e), Outputs: e.Outputs, Base: e.Base}
	for _, g := range e.Trees {
		out := api.BinTree{Output: g.Output}
		for _, n := range g.Nodes {
			k := api.BinNode{Kind: n.Kind, Value: n.Value, Feature: n.Feature, Missing: n.Missing, Left: n.Left, Right: n.Right}
			if n.Kind == api.NodeNumber {
				k.Rank = slices.Index(m.Bins.Cuts[n.Feature], n.Threshold)
			}
			for _, c := range n.Cats {
				k.Cats = append(k.Cats, slices.Index(m.Bins.Cats[n.Feature], c))
			}
			out.Nodes = append(out.Nodes, k)
		}
		m.Trees = append(m.Trees, out)
	}
	return m
}

func backByWords(m api.Binned) (api.Ensemble, api.Errno) {
	if !rightByWords(m.Bins) {
		return api.Ensemble{}, api.ErrBins
	}
	e := api.Ensemble{Name: "binned", Outputs: m.Outputs, Base: m.Base}
	for i := range m.Bins.Cuts {
		e.Features = append(e.Features, fmt.Sprintf("f%d", i))
	}
	for _, g := range m.Trees {
		out := api.Tree{Output: g.Output}
		for _, k := range g.Nodes {
			n := api.Node{Kind: k.Kind, Value: k.Value, Feature: k.Feature, Cats: k.Cats, Missing: k.Missing, Left: k.Left, Right: k.Right}
			if k.Kind == api.NodeNumber || k.Kind == api.NodeCats {
				if k.Feature < 0 || k.Feature >= len(m.Bins.Cuts) {
					return api.Ensemble{}, api.ErrBins
				}
			}
			if k.Kind == api.NodeNumber {
				if k.Rank < 0 || k.Rank >= len(m.Bins.Cuts[k.Feature]) {
					return api.Ensemble{}, api.ErrBins
				}
				n.Threshold = m.Bins.Cuts[k.Feature][k.Rank]
			} else if k.Rank != 0 {
				return api.Ensemble{}, api.ErrBins
			}
			if k.Kind == api.NodeCats {
				n.Cats = nil
				for _, c := range k.Cats {
					if c < 0 || c >= len(m.Bins.Cats[k.Feature]) {
						return api.Ensemble{}, api.ErrBins
					}
					n.Cats = append(n.Cats, m.Bins.Cats[k.Feature][c])
				}
			}
			out.Nodes = append(out.Nodes, n)
		}
		e.Trees = append(e.Trees, out)
	}
	if !rules.Valid(e) {
		return api.Ensemble{}, api.ErrModel
	}
	return e, api.OK
}

// scoreByWords is what a right binned ensemble says of right codes.
func scoreByWords(m api.Binned, l []api.Code) []int64 {
	sums := slices.Clone(m.Base)
	for _, g := range m.Trees {
		var down func(i int) int64
		down = func(i int) int64 {
			n := g.Nodes[i]
			if n.Kind == api.NodeLeaf {
				return n.Value
			}
			c := l[n.Feature]
			goes := n.Kind == api.NodeNumber && c.Bin <= n.Rank || n.Kind == api.NodeCats && slices.Contains(n.Cats, c.Cat)
			if c.Lost {
				goes = n.Missing == left
			}
			if goes {
				return down(n.Left)
			}
			return down(n.Right)
		}
		sums[g.Output] += down(0)
	}
	return sums
}

func someThreshold(r *rand.Rand) float64 {
	v := []float64{0, minus0, 1, -1, 0.5, endless, -endless, 5e-324, -5e-324, 3, 4, 1e300, math.Float64frombits(r.Uint64() &^ (1 << 62))}[r.IntN(13)]
	switch r.IntN(6) {
	case 0:
		return math.Nextafter(v, endless)
	case 1:
		return math.Nextafter(v, -endless)
	}
	return v
}

func someNumber(r *rand.Rand) float64 {
	switch r.IntN(6) {
	case 0:
		return nan
	case 1:
		return float64(r.IntN(6))
	}
	return someThreshold(r)
}

func someVector(r *rand.Rand, features int) []float64 {
	x := make([]float64, features)
	for i := range x {
		x[i] = someNumber(r)
	}
	return x
}

func someCats(r *rand.Rand) []int {
	var l []int
	for c := r.IntN(3); c < api.MaxCats && len(l) < 5; c += 1 + r.IntN(3)*r.IntN(300) {
		l = append(l, c)
	}
	return l
}

// someTree is a right tree of some outputs, its nodes numbered at random.
func someTree(r *rand.Rand, inner, features, outputs int) api.Tree {
	value := func() int64 { return r.Int64N(2001) - 1000 }
	nodes := []api.Node{leafOf(value())}
	for range inner {
		i := r.IntN(len(nodes))
		for nodes[i].Kind != api.NodeLeaf {
			i = r.IntN(len(nodes))
		}
		n := numberOf(r.IntN(features), someThreshold(r), api.Side(1+r.IntN(2)), len(nodes), len(nodes)+1)
		if r.IntN(3) == 0 {
			n = catsOf(n.Feature, n.Missing, n.Left, n.Right, someCats(r)...)
		}
		if r.IntN(2) == 0 {
			n.Left, n.Right = n.Right, n.Left
		}
		nodes[i] = n
		nodes = append(nodes, leafOf(value()), leafOf(value()))
	}
	return api.Tree{Output: r.IntN(outputs), Nodes: nodes}
}

func someEnsemble(r *rand.Rand, many, features, outputs int) api.Ensemble {
	e := ensemble(features)
	e.Outputs, e.Base = outputs, nil
	for range outputs {
		e.Base = append(e.Base, r.Int64N(1000)-500)
	}
	for range many {
		e.Trees = append(e.Trees, someTree(r, r.IntN(10), features, outputs))
	}
	return e
}

// numbersOf are all numbers that matter for a feature: thresholds, categories, those beside them, and others.
func numbersOf(b api.Bins, feature int) []float64 {
	l := []float64{nan, endless, -endless, 0, minus0, 0.5, 1e300, -1e300}
	for _, v := range b.Cuts[feature] {
		l = append(l, v, math.Nextafter(v, endless), math.Nextafter(v, -endless))
	}
	for _, c := range b.Cats[feature] {
		l = append(l, float64(c), float64(c)+0.5, math.Nextafter(float64(c), endless), math.Nextafter(float64(c), -endless))
	}
	return l
}

func TestSomeEnsembles(t *testing.T) {
	r := source()
	for range 2000 {
		features := 1 + r.IntN(3)
		e := someEnsemble(r, r.IntN(6), features, 1+r.IntN(2))
		m := binned(t, e)
		isBinned(t, "an ensemble", m, compileByWords(e))
		isOf(t, "an ensemble", e, ofByWords(e))
		comesBack(t, "an ensemble", m, e)
		for range 15 {
			x := someVector(r, features)
			for i := range x {
				if near := numbersOf(m.Bins, i); r.IntN(2) == 0 {
					x[i] = near[r.IntN(len(near))]
				}
			}
			want, why := trees.Score(e, x)
			if why != api.OK {
				t.Fatal(why)
			}
			says(t, "P20.6", m, x, want...)
			// Another vector of the same code.
			l, _ := Codes(m.Bins, x)
			other := slices.Clone(x)
			for i := range x {
				if v, why := Point(m.Bins, i, l[i]); why == api.OK {
					other[i] = v
				}
			}
			if k, _ := Codes(m.Bins, other); !slices.Equal(k, l) {
				t.Errorf("P20.8: codes %v of %v, not %v of %v", k, other, l, x)
			}
			if s, _ := trees.Score(e, other); !slices.Equal(s, want) {
				t.Errorf("P20.6: %v and %v have one code, but %v and %v", x, other, want, s)
			}
		}
		back, _ := Back(m)
		again := binned(t, back)
		isBinned(t, "P20.9: once more", again, m)
		if t.Failed() {
			t.Fatal(e)
		}
	}
}

// someBins are right ones.
func someBins(r *rand.Rand) api.Bins {
	var b api.Bins
	for range 1 + r.IntN(3) {
		var cuts []float64
		for range r.IntN(6) {
			cuts = append(cuts, someThreshold(r))
		}
		var cats []int
		if r.IntN(2) == 0 {
			cats = someCats(r)
		}
		b.Cuts, b.Cats = append(b.Cuts, order.Distinct(cuts)), append(b.Cats, cats)
	}
	return b
}

func TestSomeBins(t *testing.T) {
	r := source()
	for range 4000 {
		b := someBins(r)
		if !Right(b) {
			t.Fatalf("P20.1: %v is not right", b)
		}
		for feature := range b.Cuts {
			isRanked(t, b, feature)
			for bin := -2; bin <= len(b.Cuts[feature])+2; bin++ {
				for cat := -2; cat <= len(b.Cats[feature])+1; cat++ {
					for _, lost := range []bool{false, true} {
						c := api.Code{Bin: bin, Cat: cat, Lost: lost}
						if want, ok := pointByWords(b, feature, c); ok {
							hasPoint(t, "some bins", b, feature, c, want)
							isCoded(t, b, feature, want, c)
						} else {
							noPoint(t, "some bins", b, feature, c, api.ErrBins)
						}
					}
				}
			}
		}
		if t.Failed() {
			return
		}
	}
}

// isCoded holds a number of a feature to its code.
func isCoded(t *testing.T, b api.Bins, feature int, v float64, want api.Code) {
	t.Helper()
	x := make([]float64, len(b.Cuts))
	x[feature] = v
	if l, why := Codes(b, x); why != api.OK || l[feature] != want {
		t.Errorf("P20.8: the code of %v is %v, %d, not %v", v, l[feature], why, want)
	}
}

// isRanked holds the codes of all numbers that matter to the words, and to their order.
func isRanked(t *testing.T, b api.Bins, feature int) {
	t.Helper()
	l := order.Sorted(numbersOf(b, feature))
	last := 0
	for _, v := range l {
		c := codeByWords(b, feature, v)
		isCoded(t, b, feature, v, c)
		if math.IsNaN(v) {
			continue
		}
		for rank, cut := range b.Cuts[feature] {
			if (v <= cut) != (c.Bin <= rank) {
				t.Errorf("P20.7: %v and threshold %d of %v: bin %d", v, rank, b, c.Bin)
			}
		}
		if c.Bin < last {
			t.Errorf("P20.7: %v of %v has the bin %d, a lesser number %d", v, b, c.Bin, last)
		}
		last = c.Bin
	}
}

// spoilt are bins in which something is set at random.
func spoiltBins(r *rand.Rand, b api.Bins) api.Bins {
	i := r.IntN(len(b.Cuts))
	switch r.IntN(6) {
	case 0:
		if k := len(b.Cuts[i]); k > 0 {
			b.Cuts[i][r.IntN(k)] = []float64{nan, minus0, 0, 1, endless}[r.IntN(5)]
		}
	case 1:
		if k := len(b.Cats[i]); k > 0 {
			b.Cats[i][r.IntN(k)] = []int{-1, 0, 1, 1023, 1024}[r.IntN(5)]
		}
	case 2:
		b.Cuts = b.Cuts[:len(b.Cuts)-1]
	case 3:
		b.Cats = append(b.Cats, nil)
	case 4:
		slices.Reverse(b.Cuts[i])
	case 5:
		slices.Reverse(b.Cats[i])
	}
	return b
}

func TestSpoiltBins(t *testing.T) {
	r := source()
	for range 20000 {
		b := spoiltBins(r, someBins(r))
		x := someVector(r, len(b.Cuts))
		if want := rightByWords(b); Right(b) != want {
			t.Fatalf("P20.1: Right(%v) is not %v", b, want)
		} else if !want {
			noCodes(t, "spoilt", b, x, api.ErrBins)
			noPoint(t, "spoilt", b, 0, missing(), api.ErrBins)
		}
	}
}

// spoilt is a binned ensemble in which something is set at random.
func spoilt(r *rand.Rand, m api.Binned) api.Binned {
	for range 1 + r.IntN(2) {
		if len(m.Trees) == 0 || r.IntN(10) == 0 {
			m.Bins = spoiltBins(r, someBins(r))
			continue
		}
		g := &m.Trees[r.IntN(len(m.Trees))]
		n := &g.Nodes[r.IntN(len(g.Nodes))]
		switch r.IntN(10) {
		case 0:
			n.Kind = api.NodeKind(r.IntN(5))
		case 1:
			n.Value = int64(r.IntN(3))
		case 2:
			n.Feature = r.IntN(6) - 1
		case 3:
			n.Rank = r.IntN(6) - 1
		case 4:
			n.Cats = []([]int){nil, {0}, {-1}, {0, 1}, {1, 0}, {5}, {}}[r.IntN(7)]
		case 5:
			n.Missing = api.Side(r.IntN(4))
		case 6:
			n.Left = r.IntN(len(g.Nodes) + 1)
		case 7:
			g.Output = r.IntN(4) - 1
		case 8:
			m.Outputs = r.IntN(4)
		case 9:
			g.Nodes = g.Nodes[:r.IntN(len(g.Nodes)+1)]
			if len(g.Nodes) == 0 {
				return m
			}
		}
	}
	return m
}

func TestSpoilt(t *testing.T) {
	r := source()
	many := map[api.Errno]int{}
	for range 20000 {
		m := spoilt(r, binned(t, someEnsemble(r, r.IntN(4), 1+r.IntN(3), 1+r.IntN(2))))
		want, why := backByWords(m)
		many[why]++
		if why != api.OK {
			refused(t, "spoilt", m, why)
			continue
		}
		if e, why := Back(m); why != api.OK || !trees.Same(e, want) {
			t.Fatalf("P20.3: Back(%v) = %v, %d, not %v", m, e, why, want)
		}
		x := someVector(r, len(m.Bins.Cuts))
		l, _ := Codes(m.Bins, x)
		says(t, "spoilt", m, x, scoreByWords(m, l)...)
		// Codes that a number need not have.
		for i := range l {
			l[i] = api.Code{Bin: r.IntN(len(m.Bins.Cuts[i]) + 1), Cat: r.IntN(len(m.Bins.Cats[i])+1) - 1}
		}
		saysOf(t, "any codes", m, l, scoreByWords(m, l)...)
	}
	for why, n := range many {
		if n < 500 {
			t.Errorf("error %d but %d times", why, n)
		}
	}
}

package lists

import (
	"math"
	"math/rand/v2"
	"slices"
	"testing"

	"thicket/api"
	"thicket/bits"
	"thicket/masks"
	"thicket/order"
	"thicket/trees"
)

// someTree has so many leaves, its nodes numbered at random; it asks for the features below features.
func someTree(r *rand.Rand, leaves, features int) api.Tree {
	anew := r.Perm(2*leaves - 2)
	at := func(i int) int { // node 0 stays the first one
		if i == 0 {
			return 0
		}
		return anew[i-1] + 1
	}
	t := api.Tree{Output: r.IntN(3), Nodes: make([]api.Node, 2*leaves-1)}
	many := 0
	var grow func(leaves int) int
	grow = func(leaves int) int {
		i := at(many)
		many++
		if leaves == 1 {
			t.Nodes[i] = leafOf(r.Int64N(2000) - 1000)
			return i
		}
		n := someSplit(r, features)
		ofLeft := 1 + r.IntN(leaves-1)
		n.Left = grow(ofLeft)
		n.Right = grow(leaves - ofLeft)
		t.Nodes[i] = n
		return i
	}
	grow(leaves)
	return t
}

// someSplit is an inner node, its Left and Right not yet told.
func someSplit(r *rand.Rand, features int) api.Node {
	missing := []api.Side{left, right}[r.IntN(2)]
	feature := r.IntN(features)
	if r.IntN(3) > 0 {
		return numberOf(feature, []float64{0, minus0, 0.5, -0.5, 1, 2, 3, endless, -endless, math.MaxFloat64, 5e-324}[r.IntN(11)], missing, 0, 0)
	}
	var cats []int
	for _, c := range []int{0, 1, 2, 3, 7, 1023} {
		if r.IntN(2) == 0 {
			cats = append(cats, c)
		}
	}
	if len(cats) == 0 {
		cats = []int{5}
	}
	return catsOf(feature, missing, 0, 0, cats...)
}

func someForest(r *rand.Rand, many, features int) []api.Tree {
	var l []api.Tree
	for range many {
		l = append(l, someTree(r, 1+r.IntN(8), features))
	}
	return l
}

func someNumber(r *rand.Rand) float64 {
	return []float64{0, minus0, 0.5, -0.5, 1, 1.5, 2, 3, 5, 7, 1023, 1024, -1, endless, -endless, nan, math.Float64frombits(0xfff0000000000001), 5e-324, math.MaxFloat64, math.Nextafter(0.5, 1)}[r.IntN(20)]
}

func someVector(r *rand.Rand, features int) []float64 {
	x := make([]float64, features)
	for i := range x {
		x[i] = someNumber(r)
	}
	return x
}

// someList is one that no call made.
func someList(r *rand.Rand) api.List {
	some := func() []api.Cut {
		var l []api.Cut
		for range r.IntN(6) {
			l = append(l, cut(someNumber(r), r.IntN(4)-1, r.IntN(9)-1, r.IntN(9)-1, r.Perm(8)[:r.IntN(4)]...))
		}
		return l
	}
	return api.List{Feature: r.IntN(5) - 2, Numbers: some(), Cats: some(), Lost: some()}
}

// marked is an inner node with its cut.
type marked struct {
	node api.Node
	cut  api.Cut
}

// markedByWords are the inner nodes of right trees, in order: how many leaves stand ahead of one, and how many below its Left.
func markedByWords(l []api.Tree) []marked {
	var all []marked
	for number, g := range l {
		ahead := 0
		var visit func(i int)
		visit = func(i int) {
			n := g.Nodes[i]
			if n.Kind == api.NodeLeaf {
				ahead++
				return
			}
			at, from := len(all), ahead
			all = append(all, marked{node: n})
			visit(n.Left)
			all[at].cut = cut(n.Threshold, number, from, ahead, n.Cats...)
			visit(n.Right)
		}
		visit(0)
	}
	return all
}

// listsByWords takes feature by feature, and puts each cut behind the last one that it is not below.
func listsByWords(l []api.Tree, features int) []api.List {
	var out []api.List
	all := markedByWords(l)
	for feature := range features {
		one := api.List{Feature: feature}
		for _, m := range all {
			if m.node.Feature != feature {
				continue
			}
			if m.node.Kind == api.NodeCats {
				one.Cats = append(one.Cats, m.cut)
			} else {
				at := len(one.Numbers)
				for at > 0 && m.cut.Threshold < one.Numbers[at-1].Threshold {
					at--
				}
				one.Numbers = slices.Insert(one.Numbers, at, m.cut)
			}
			if m.node.Missing == right {
				one.Lost = append(one.Lost, m.cut)
			}
		}
		if len(one.Numbers)+len(one.Cats) > 0 {
			out = append(out, one)
		}
	}
	return out
}

func TestListsOfAnyTrees(t *testing.T) {
	r := source()
	for range 2000 {
		features := 1 + r.IntN(6)
		l := someForest(r, r.IntN(8), features)
		got, why := Of(l, features)
		if want := listsByWords(l, features); why != api.OK || !sameLists(got, want) {
			t.Fatalf("P14.1: %v: %v, %d, not %v", l, got, why, want)
		}
		if more, why := Of(l, features+r.IntN(100)); why != api.OK || !sameLists(got, more) {
			t.Fatalf("P14.1: with more features: %v, not %v", more, got)
		}
	}
	l := []api.Tree{someTree(r, 1000, 3), someTree(r, 1, 3), someTree(r, api.MaxLeaves, 3), someTree(r, 1000, 3)}
	if got, why := Of(l, 3); why != api.OK || !sameLists(got, listsByWords(l, 3)) {
		t.Error("P14.1: great trees:", why)
	}
}

// errorByWords is Of's error, by the first tree that has one.
func errorByWords(l []api.Tree, features int) api.Errno {
	for _, g := range l {
		if why, _ := trees.Shape(g); why != api.OK {
			return why
		}
		if slices.ContainsFunc(g.Nodes, func(n api.Node) bool { return n.Kind != api.NodeLeaf && n.Feature > features-1 }) {
			return api.ErrVector
		}
	}
	return api.OK
}

// Trees that were changed at random: none of them makes a call panic, and the first that has an error tells it.
func TestSpoiledTrees(t *testing.T) {
	r := source()
	met := map[api.Errno]int{}
	for range 20000 {
		l := someForest(r, 1+r.IntN(4), 3)
		for range r.IntN(4) {
			if g := &l[r.IntN(len(l))]; len(g.Nodes) > 0 {
				spoil(r, g)
			}
		}
		features := 2 + r.IntN(3)
		want := errorByWords(l, features)
		got, why := Of(l, features)
		if why != want || why != api.OK && got != nil || why == api.OK && !sameLists(got, listsByWords(l, features)) {
			t.Fatalf("P14.1: %v of %d features: %v, %d, not %d", l, features, got, why, want)
		}
		met[why]++
		feature := r.IntN(6) - 1
		if th, c := Thresholds(l, feature), Categories(l, feature); !slices.Equal(th, thresholdsByWords(l, feature)) || !slices.Equal(c, categoriesByWords(l, feature)) {
			t.Fatalf("P14.4: %v of %d: %v, %v", l, feature, th, c)
		}
	}
	for _, why := range []api.Errno{api.OK, api.ErrShape, api.ErrSplit, api.ErrVector} {
		if met[why] < 300 {
			t.Errorf("%d was met %d times: no test", why, met[why])
		}
	}
}

// spoil changes a node of a tree, or takes some away, to what may be right or not.
func spoil(r *rand.Rand, g *api.Tree) {
	n := &g.Nodes[r.IntN(len(g.Nodes))]
	number := []int{-1, 0, 1, 2, 3, 4, 5, 9, 1024, api.MaxFeatures}[r.IntN(10)]
	switch r.IntN(10) {
	case 0:
		n.Kind = api.NodeKind(r.IntN(6))
	case 1:
		n.Value = int64(number)
	case 2, 3:
		n.Feature = number
	case 4:
		n.Threshold = []float64{0, minus0, nan, 1, endless}[r.IntN(5)]
	case 5:
		n.Cats = [][]int{nil, {}, {number}, {0, number}, {1, 3, 2}}[r.IntN(5)]
	case 6:
		n.Missing = api.Side(r.IntN(4))
	case 7:
		n.Left = number
	case 8:
		n.Right = number
	case 9:
		g.Nodes = g.Nodes[:r.IntN(len(g.Nodes))]
	}
}

func thresholdsByWords(l []api.Tree, feature int) []float64 {
	var all []float64
	for _, g := range l {
		for _, n := range g.Nodes {
			if n.Kind == api.NodeNumber && n.Feature == feature {
				all = append(all, n.Threshold)
			}
		}
	}
	return order.Distinct(all)
}

func categoriesByWords(l []api.Tree, feature int) []int {
	var all []int
	for _, g := range l {
		for _, n := range g.Nodes {
			if n.Kind == api.NodeCats && n.Feature == feature {
				all = append(all, n.Cats...)
			}
		}
	}
	slices.Sort(all)
	return slices.Compact(all)
}

// Of hand-made lists: what a scan passes, what is false, what is looked at, cut by cut.
func TestAnyLists(t *testing.T) {
	r := source()
	for range 20000 {
		l := someList(r)
		x := someNumber(r)
		first := slices.IndexFunc(l.Numbers, func(c api.Cut) bool { return !(x > c.Threshold) })
		work := first + 1
		if first < 0 {
			first = len(l.Numbers)
			work = first
		}
		want := slices.Clone(l.Numbers[:first])
		for _, c := range l.Cats {
			if !slices.ContainsFunc(c.Cats, func(c int) bool { return float64(c) == x }) {
				want = append(want, c)
			}
		}
		work += len(l.Cats)
		if x != x {
			first, want, work = 0, l.Lost, len(l.Lost)
		}
		if First(l, x) != first || !sameCuts(False(l, x), want) || Work(l, x) != work {
			t.Fatalf("P14.2: %v at %v: %d, %v, %d", l, x, First(l, x), False(l, x), Work(l, x))
		}
		coverByWords(t, l)
	}
}

// coverByWords holds Groups to cover the Numbers, each of one threshold and as long as it can be.
func coverByWords(t *testing.T, l api.List) {
	t.Helper()
	end := 0
	for i, g := range Groups(l) {
		if g.From != end || g.To <= g.From || g.To > len(l.Numbers) || math.Float64bits(g.Threshold) != math.Float64bits(l.Numbers[g.From].Threshold) && g.Threshold == g.Threshold {
			t.Fatalf("P14.3, P14.8: group %d of %v: %v", i, l, g)
		}
		for k := g.From; k < g.To-1; k++ {
			if l.Numbers[k].Threshold != l.Numbers[k+1].Threshold {
				t.Fatalf("P14.3: group %d of %v: %v", i, l, g)
			}
		}
		if g.To < len(l.Numbers) && l.Numbers[g.To].Threshold == l.Numbers[g.To-1].Threshold {
			t.Fatalf("P14.3: group %d of %v could be longer: %v", i, l, g)
		}
		end = g.To
	}
	if end != len(l.Numbers) {
		t.Fatalf("P14.8: groups of %v end at %d", l, end)
	}
}

// The cuts that lists tell of a vector are those of the nodes that masks tells, each once.
func TestWhatIsFalse(t *testing.T) {
	r := source()
	for range 2000 {
		l := someForest(r, r.IntN(6), 4)
		all, _ := Of(l, 4)
		x := someVector(r, 4)
		told := map[[3]int]int{}
		for _, one := range all {
			for _, c := range False(one, x[one.Feature]) {
				told[[3]int{c.Tree, c.From, c.To}]++
			}
		}
		many := 0
		for number, g := range l {
			marks, _ := masks.False(g, x)
			many += len(marks)
			for _, m := range marks {
				if told[[3]int{number, m.From, m.To}] != 1 {
					t.Fatalf("P14.6: %v of tree %d at %v is told %d times", m, number, x, told[[3]int{number, m.From, m.To}])
				}
			}
		}
		if many != len(told) {
			t.Fatalf("P14.6: %d cuts for %d nodes", len(told), many)
		}
	}
}

func TestEarlyStop(t *testing.T) {
	r := source()
	for range 2000 {
		all, _ := Of(someForest(r, 1+r.IntN(6), 3), 3)
		x := someNumber(r)
		for _, l := range all {
			first := First(l, x)
			for i, c := range l.Numbers {
				if (x > c.Threshold) != (i < first) {
					t.Fatalf("P14.7: %v at %v: %d", l, x, first)
				}
			}
		}
	}
}

func TestMergedThresholds(t *testing.T) {
	r := source()
	for range 2000 {
		forest := someForest(r, 1+r.IntN(6), 3)
		all, _ := Of(forest, 3)
		for _, l := range all {
			coverByWords(t, l)
			groups, th := Groups(l), Thresholds(forest, l.Feature)
			if len(groups) != len(th) {
				t.Fatalf("P14.8: %d groups, %d thresholds", len(groups), len(th))
			}
			for i, g := range groups {
				if g.Threshold != th[i] || i > 0 && !(groups[i-1].Threshold < g.Threshold) {
					t.Fatalf("P14.8: %v do not rise, or are not %v", groups, th)
				}
			}
		}
	}
}

// later are cuts of trees that are numbered on.
func later(l []api.Cut, by int) []api.Cut {
	l = slices.Clone(l)
	for i := range l {
		l[i].Tree += by
	}
	return l
}

func TestTwoParts(t *testing.T) {
	r := source()
	for range 1000 {
		l := someForest(r, r.IntN(8), 4)
		parts := r.IntN(len(l) + 1)
		whole, _ := Of(l, 4)
		one, _ := Of(l[:parts], 4)
		two, _ := Of(l[parts:], 4)
		joined := make([]api.List, 4)
		for i := range joined {
			joined[i].Feature = i
		}
		for _, a := range one {
			joined[a.Feature] = a
		}
		for _, b := range two {
			j := &joined[b.Feature]
			j.Numbers = append(j.Numbers, later(b.Numbers, parts)...)
			slices.SortStableFunc(j.Numbers, func(c, d api.Cut) int { return order.Compare(c.Threshold, d.Threshold) })
			j.Cats = append(j.Cats, later(b.Cats, parts)...)
			j.Lost = append(j.Lost, later(b.Lost, parts)...)
		}
		joined = slices.DeleteFunc(joined, func(j api.List) bool { return len(j.Numbers)+len(j.Cats) == 0 })
		if !sameLists(whole, joined) {
			t.Fatalf("P14.9: %v in parts of %d: %v, not %v", l, parts, joined, whole)
		}
	}
}

// P5: a score by lists alone: what each feature's false cuts leave of each tree's leaves.
func TestScoresByLists(t *testing.T) {
	r := source()
	for range 1000 {
		e := api.Ensemble{Features: []string{"a", "b", "c"}, Outputs: 3, Base: []int64{1, -2, 3}, Trees: someForest(r, r.IntN(7), 3)}
		all, why := Of(e.Trees, 3)
		if why != api.OK {
			t.Fatal("P14.1:", why)
		}
		for range 5 {
			x := someVector(r, 3)
			left := make([][]uint64, len(e.Trees))
			for i, g := range e.Trees {
				left[i], _ = bits.Full(len(g.Nodes)/2 + 1)
			}
			for _, l := range all {
				for _, c := range False(l, x[l.Feature]) {
					for k := c.From; k < c.To; k++ {
						left[c.Tree], _ = bits.Less(left[c.Tree], k)
					}
				}
			}
			sums := slices.Clone(e.Base)
			for i, g := range e.Trees {
				leaves, _ := trees.Leaves(g)
				sums[g.Output] += g.Nodes[leaves[bits.Lowest(left[i])]].Value
			}
			if s, why := trees.Score(e, x); why != api.OK || !slices.Equal(s, sums) {
				t.Fatalf("P5: %v at %v: %v by lists, %v by descent", e, x, sums, s)
			}
		}
	}
}

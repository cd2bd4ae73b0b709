package masks

import (
	"math"
	"math/rand/v2"
	"reflect"
	"slices"
	"testing"

	"thicket/api"
	"thicket/bits"
	"thicket/trees"
)

// someTree has so many leaves, its nodes numbered at random; it asks for the features below features.
func someTree(r *rand.Rand, leaves, features int) api.Tree {
	anew := r.Perm(2*leaves - 2)
	at := func(i int) int { // node 0 stays the first one
		if i == 0 {
			return 0
		}
		return anew[i-1] + 1
	}
	t := api.Tree{Output: r.IntN(3), Nodes: make([]api.Node, 2*leaves-1)}
	many := 0
	var grow func(leaves int) int
	grow = func(leaves int) int {
		i := at(many)
		many++
		if leaves == 1 {
			t.Nodes[i] = leafOf(r.Int64N(2000) - 1000)
			return i
		}
		n := someSplit(r, features)
		ofLeft := 1 + r.IntN(leaves-1)
		n.Left = grow(ofLeft)
		n.Right = grow(leaves - ofLeft)
		t.Nodes[i] = n
		return i
	}
	grow(leaves)
	return t
}

// someSplit is an inner node, its Left and Right not yet told.
func someSplit(r *rand.Rand, features int) api.Node {
	missing := []api.Side{left, right}[r.IntN(2)]
	feature := r.IntN(features)
	if r.IntN(3) > 0 {
		return numberOf(feature, []float64{0, minus0, 0.5, -0.5, 1, 2, 3, endless, -endless, math.MaxFloat64, 5e-324}[r.IntN(11)], missing, 0, 0)
	}
	var cats []int
	for _, c := range []int{0, 1, 2, 3, 7, 1023} {
		if r.IntN(2) == 0 {
			cats = append(cats, c)
		}
	}
	if len(cats) == 0 {
		cats = []int{5}
	}
	return catsOf(feature, missing, 0, 0, cats...)
}

func someVector(r *rand.Rand, features int) []float64 {
	x := make([]float64, features)
	for i := range x {
		x[i] = []float64{0, minus0, 0.5, -0.5, 1, 1.5, 2, 3, 5, 7, 1023, 1024, -1, endless, -endless, nan, math.Float64frombits(0xfff0000000000001), 5e-324, math.MaxFloat64, math.Nextafter(0.5, 1)}[r.IntN(20)]
	}
	return x
}

// below are the numbers of the leaves below a node from left to right, and of its inner nodes, itself first.
func below(l []api.Node, i int) (leaves, inner []int) {
	n := l[i]
	if n.Kind == api.NodeLeaf {
		return []int{i}, nil
	}
	ofLeft, innerLeft := below(l, n.Left)
	ofRight, innerRight := below(l, n.Right)
	return slices.Concat(ofLeft, ofRight), slices.Concat([]int{i}, innerLeft, innerRight)
}

// goesRight says it by the words of chapter 7.
func goesRight(n api.Node, v float64) bool {
	switch {
	case v != v:
		return n.Missing == right
	case n.Kind == api.NodeNumber:
		return v > n.Threshold
	}
	return !slices.ContainsFunc(n.Cats, func(c int) bool { return v == float64(c) })
}

// packed are bits as words, one by one.
func packed(in []bool) []uint64 {
	words := make([]uint64, (len(in)+63)/64)
	for i, one := range in {
		if one {
			words[i/64] += 1 << (i % 64)
		}
	}
	return words
}

// byWords is what the chapter says of a tree and a vector: leaf by leaf, and where the vector comes to by descent.
func byWords(g api.Tree, x []float64) said {
	var s said
	if s.why = errorsByWords(g, x); s.why[0] != api.OK {
		return s
	}
	leaves, inner := below(g.Nodes, 0)
	out := make([]bool, len(leaves))
	for _, i := range inner {
		n := g.Nodes[i]
		ofLeft, _ := below(g.Nodes, n.Left)
		m := api.Mark{Node: i, From: slices.Index(leaves, ofLeft[0]), To: slices.Index(leaves, ofLeft[len(ofLeft)-1]) + 1}
		s.marks = append(s.marks, m)
		mask := make([]bool, len(leaves))
		wrong := s.why[2] == api.OK && goesRight(n, x[n.Feature])
		for k, leaf := range leaves {
			mask[k] = !slices.Contains(ofLeft, leaf)
			out[k] = out[k] || wrong && !mask[k]
		}
		s.masks = append(s.masks, packed(mask))
		if wrong {
			s.wrong = append(s.wrong, m)
		}
	}
	if s.why[2] != api.OK {
		return s
	}
	for k := range out {
		out[k] = !out[k]
	}
	s.reach = packed(out)
	at := 0
	for g.Nodes[at].Kind != api.NodeLeaf {
		if n := g.Nodes[at]; goesRight(n, x[n.Feature]) {
			at = n.Right
		} else {
			at = n.Left
		}
	}
	s.exit, s.value = slices.Index(leaves, at), g.Nodes[at].Value
	return s
}

func errorsByWords(g api.Tree, x []float64) [5]api.Errno {
	if why, _ := trees.Shape(g); why != api.OK {
		return [5]api.Errno{why, why, why, why, why}
	}
	if len(g.Nodes) > 2*api.MaxLeaves-1 {
		return [5]api.Errno{api.ErrMany, api.ErrMany, api.ErrMany, api.ErrMany, api.ErrMany}
	}
	for _, n := range g.Nodes {
		if n.Kind != api.NodeLeaf && n.Feature > len(x)-1 {
			return [5]api.Errno{0, 0, api.ErrVector, api.ErrVector, api.ErrVector}
		}
	}
	return [5]api.Errno{}
}

func TestAnyTreesByWords(t *testing.T) {
	r := source()
	for i := range 3000 {
		leaves := 1 + r.IntN(12)
		if i%20 == 0 {
			leaves = []int{31, 32, 33, 62, 63, 64, 65, 66, 127, 128, 129, 200}[i/20%12]
		}
		g := someTree(r, leaves, 4)
		for range 4 {
			x := someVector(r, 2+r.IntN(4)) // some are too short
			if s, want := asked(g, x).plain(), byWords(g, x).plain(); !reflect.DeepEqual(s, want) {
				t.Fatalf("13.1 to 13.3, 13.5: %v at %v: %v, not %v", g, x, s, want)
			}
		}
	}
}

func TestGreatTreesByWords(t *testing.T) {
	r := source()
	for _, g := range []api.Tree{chain(300, left), chain(300, right), bushy(500), someTree(r, 400, 4)} {
		for range 3 {
			x := someVector(r, 4)
			if s, want := asked(g, x).plain(), byWords(g, x).plain(); !reflect.DeepEqual(s, want) {
				t.Fatalf("13.1 to 13.3: %d nodes at %v: %.300v, not %.300v", len(g.Nodes), x, s, want)
			}
		}
	}
	for range 5 {
		g := someTree(r, api.MaxLeaves, 4)
		x := someVector(r, 4)
		k, v, why := Exit(g, x)
		if place, value, _ := trees.Leaf(g, x); why != api.OK || k != place || v != value {
			t.Fatalf("13.5: MaxLeaves leaves at %v: %d, %d, %d, not %d, %d", x, k, v, why, place, value)
		}
	}
}

// spoilNode changes a field, to what may be right or not.
func spoilNode(r *rand.Rand, n *api.Node) {
	number := []int{-1, 0, 1, 2, 3, 4, 5, 9, 1024, api.MaxFeatures, math.MaxInt, math.MinInt}[r.IntN(12)]
	switch r.IntN(8) {
	case 0:
		n.Kind = api.NodeKind(r.IntN(6))
	case 1:
		n.Value = int64(number)
	case 2:
		n.Feature = number
	case 3:
		n.Threshold = []float64{0, minus0, nan, 1, endless}[r.IntN(5)]
	case 4:
		n.Cats = [][]int{nil, {}, {number}, {0, number}, {1, 3, 2}}[r.IntN(5)]
	case 5:
		n.Missing = api.Side(r.IntN(4))
	case 6:
		n.Left = number
	case 7:
		n.Right = number
	}
}

// Trees that were changed at random: none of them makes a call panic, and each has the error that is its.
func TestSpoiledTrees(t *testing.T) {
	r := source()
	met := map[api.Errno]int{}
	for range 40000 {
		g := someTree(r, 1+r.IntN(6), 3)
		for range 1 + r.IntN(2) {
			spoilNode(r, &g.Nodes[r.IntN(len(g.Nodes))])
		}
		if r.IntN(10) == 0 {
			g.Nodes = g.Nodes[:r.IntN(len(g.Nodes))]
		}
		x := someVector(r, r.IntN(5))
		s, want := asked(g, x).plain(), byWords(g, x).plain()
		if !reflect.DeepEqual(s, want) {
			t.Fatalf("P1, 13.1 to 13.3: %v at %v: %v, not %v", g, x, s, want)
		}
		met[s.why[4]]++
	}
	for _, why := range []api.Errno{api.OK, api.ErrShape, api.ErrSplit, api.ErrVector} {
		if met[why] < 300 {
			t.Errorf("%d was met %d times: no test", why, met[why])
		}
	}
}

func TestExitIsTheLeaf(t *testing.T) {
	r := source()
	for range 3000 {
		g := someTree(r, 1+r.IntN(100), 4)
		x := someVector(r, 4)
		reach, _ := Reach(g, x)
		k, v, why := Exit(g, x)
		place, value, _ := trees.Leaf(g, x)
		if why != api.OK || bits.Count(reach) == 0 || bits.Lowest(reach) != k || k != place || v != value {
			t.Fatalf("13.5: %v at %v: %v, %d, %d, not %d, %d", g, x, reach, k, v, place, value)
		}
	}
}

// Masks of false nodes meet a set in any order, and more than once.
func TestMasksInAnyOrder(t *testing.T) {
	r := source()
	for range 1000 {
		g := someTree(r, 2+r.IntN(100), 4)
		x := someVector(r, 4)
		l, _ := False(g, x)
		all, _ := Masks(g)
		marks, _ := Marks(g)
		want, _ := Reach(g, x)
		for range 4 {
			l = append(l, l[:r.IntN(len(l)+1)]...)
			r.Shuffle(len(l), func(i, j int) { l[i], l[j] = l[j], l[i] })
			set, _ := bits.Full((len(g.Nodes) + 1) / 2)
			for _, m := range l {
				if why := bits.Meet(set, all[slices.Index(marks, m)]); why != api.OK {
					t.Fatal("13.6: Meet:", why)
				}
			}
			if !slices.Equal(set, want) {
				t.Fatalf("13.6: %v at %v: %v, not %v", g, x, set, want)
			}
		}
	}
}

func TestIntervals(t *testing.T) {
	r := source()
	for range 500 {
		g := someTree(r, 1+r.IntN(70), 4)
		l, _ := Marks(g)
		for i, a := range l {
			ofLeft, _ := below(g.Nodes, g.Nodes[a.Node].Left)
			if a.From < 0 || a.To-a.From != len(ofLeft) || a.To > len(g.Nodes)/2 {
				t.Fatalf("13.7: %v of %v: %d leaves below its Left", a, g, len(ofLeft))
			}
			for _, b := range l[i+1:] {
				if apart := a.To <= b.From || b.To <= a.From; !apart && !(a.From <= b.From && b.To <= a.To) && !(b.From <= a.From && a.To <= b.To) {
					t.Fatalf("13.7: %v and %v of %v", a, b, g)
				}
			}
		}
	}
}

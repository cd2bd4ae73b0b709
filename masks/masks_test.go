package masks

import (
	"math"
	"math/rand/v2"
	"reflect"
	"slices"
	"testing"

	"thicket/api"
	"thicket/bits"
	"thicket/trees"
)

const (
	left  = api.SideLeft
	right = api.SideRight
)

var (
	nan     = math.NaN()
	endless = math.Inf(1)
	minus0  = math.Copysign(0, -1)
)

func source() *rand.Rand { return rand.New(rand.NewPCG(13, 13)) }

func leafOf(v int64) api.Node { return api.Node{Kind: api.NodeLeaf, Value: v} }

func numberOf(feature int, threshold float64, missing api.Side, l, r int) api.Node {
	return api.Node{Kind: api.NodeNumber, Feature: feature, Threshold: threshold, Missing: missing, Left: l, Right: r}
}

func catsOf(feature int, missing api.Side, l, r int, cats ...int) api.Node {
	return api.Node{Kind: api.NodeCats, Feature: feature, Cats: cats, Missing: missing, Left: l, Right: r}
}

func treeOf(l ...api.Node) api.Tree { return api.Tree{Nodes: l} }

// grown is chapter 7's example.
func grown() api.Tree {
	return treeOf(numberOf(1, 0.5, right, 2, 1), leafOf(30), catsOf(0, left, 3, 4, 1, 3), leafOf(10), leafOf(20))
}

// chain is a tree with so many leaves that leans all to one side: inner node 2 i, with threshold i, has the leaf 2 i + 1 on its other side.
func chain(leaves int, side api.Side) api.Tree {
	var t api.Tree
	for i := range leaves - 1 {
		n := numberOf(0, float64(i), left, 2*i+2, 2*i+1)
		if side == right {
			n.Left, n.Right = n.Right, n.Left
		}
		t.Nodes = append(t.Nodes, n, leafOf(int64(i)))
	}
	t.Nodes = append(t.Nodes, leafOf(int64(leaves-1)))
	return t
}

// bushy is a tree with so many leaves that is as flat as can be.
func bushy(leaves int) api.Tree {
	l := make([]api.Node, 2*leaves-1)
	for i := range l {
		if l[i] = leafOf(int64(i)); 2*i+2 < len(l) {
			l[i] = numberOf(i%2, float64(i%7), right, 2*i+1, 2*i+2)
		}
	}
	return treeOf(l...)
}

// said is what all calls say of a tree and a vector.
type said struct {
	marks, wrong []api.Mark
	masks        [][]uint64
	reach        []uint64
	exit         int
	value        int64
	why          [5]api.Errno // of Marks, Masks, False, Reach, Exit
}

func asked(g api.Tree, x []float64) said {
	var s said
	s.marks, s.why[0] = Marks(g)
	s.masks, s.why[1] = Masks(g)
	s.wrong, s.why[2] = False(g, x)
	s.reach, s.why[3] = Reach(g, x)
	s.exit, s.value, s.why[4] = Exit(g, x)
	return s
}

// plain has nil in the place of empty lists, so that reflect holds both alike.
func (s said) plain() said {
	if len(s.marks) == 0 {
		s.marks = nil
	}
	if len(s.wrong) == 0 {
		s.wrong = nil
	}
	if len(s.masks) == 0 {
		s.masks = nil
	}
	return s
}

// says holds what all calls say of a tree and a vector to what they should.
func says(t *testing.T, what string, g api.Tree, x []float64, want said) {
	t.Helper()
	if s := asked(g, x).plain(); !reflect.DeepEqual(s, want.plain()) {
		t.Errorf("13.1 to 13.3: %s at %.60v: %.300v, not %.300v", what, x, s, want)
	}
}

func TestExamples(t *testing.T) {
	marks, masks := []api.Mark{{Node: 0, From: 0, To: 2}, {Node: 2, From: 0, To: 1}}, [][]uint64{{4}, {6}}
	says(t, "example 2", grown(), []float64{3, 0.5}, said{marks: marks, masks: masks, reach: []uint64{7}, exit: 0, value: 10})
	says(t, "example 2", grown(), []float64{2, 0.6}, said{marks: marks, masks: masks, wrong: marks, reach: []uint64{4}, exit: 2, value: 30})
	says(t, "example 2", grown(), []float64{2, 0}, said{marks: marks, masks: masks, wrong: marks[1:], reach: []uint64{6}, exit: 1, value: 20})
	for _, x := range [][]float64{nil, {}, {nan}, {1, 2, 3}} {
		says(t, "example 3", treeOf(leafOf(5)), x, said{reach: []uint64{1}, exit: 0, value: 5})
	}
	says(t, "a leaf", treeOf(leafOf(math.MinInt64)), nil, said{reach: []uint64{1}, value: math.MinInt64})
}

// What is false is false also where the vector never comes by; what is left begins with its leaf all the same.
func TestFalseAside(t *testing.T) {
	g := treeOf(numberOf(0, 1, left, 1, 4), catsOf(1, left, 2, 3, 5), leafOf(1), leafOf(2), numberOf(2, 1, left, 5, 6), leafOf(3), leafOf(4))
	marks, masks := []api.Mark{{Node: 0, From: 0, To: 2}, {Node: 1, From: 0, To: 1}, {Node: 4, From: 2, To: 3}}, [][]uint64{{12}, {14}, {11}}
	for _, c := range []struct {
		x     []float64
		wrong []api.Mark
		reach uint64
		exit  int
	}{
		{[]float64{0, 5, 0}, nil, 15, 0}, {[]float64{0, 5, 2}, marks[2:], 11, 0}, {[]float64{0, 6, 0}, marks[1:2], 14, 1}, {[]float64{0, 6, 2}, marks[1:], 10, 1},
		{[]float64{2, 5, 0}, marks[:1], 12, 2}, {[]float64{2, 6, 0}, marks[:2], 12, 2}, {[]float64{2, 5, 2}, []api.Mark{marks[0], marks[2]}, 8, 3}, {[]float64{2, 6, 2}, marks, 8, 3},
	} {
		says(t, "false aside", g, c.x, said{marks: marks, masks: masks, wrong: c.wrong, reach: []uint64{c.reach}, exit: c.exit, value: int64(c.exit + 1)})
	}
}

// At a node of either kind with either Missing: NaN, noughts of both signs, infinities, what is just beside.
func TestFalseOfANumber(t *testing.T) {
	above, below := math.Nextafter(0.5, 1), math.Nextafter(0.5, 0)
	nans := []float64{nan, -nan, math.Float64frombits(0x7ff0000000000001), math.Float64frombits(0xffffffffffffffff)}
	for _, c := range []struct {
		n           api.Node
		left, right []float64
	}{
		{numberOf(0, 0.5, left, 1, 2), []float64{0.5, below, 0, minus0, -1, -endless}, []float64{above, 1, math.MaxFloat64, endless}},
		{numberOf(0, 0, left, 1, 2), []float64{0, minus0, -5e-324, -endless}, []float64{5e-324, 1, endless}},
		{numberOf(0, minus0, left, 1, 2), []float64{0, minus0, -5e-324, -endless}, []float64{5e-324, 1, endless}},
		{numberOf(0, endless, left, 1, 2), []float64{endless, math.MaxFloat64, 0, -endless}, nil},
		{numberOf(0, -endless, left, 1, 2), []float64{-endless}, []float64{-math.MaxFloat64, 0, endless}},
		{catsOf(0, left, 1, 2, 0), []float64{0, minus0}, []float64{5e-324, -5e-324, 1, -1, endless, -endless}},
		{catsOf(0, left, 1, 2, 3, 1023), []float64{3, 1023}, []float64{0, 2, 4, -3, 3.0000000000000004, 2.9999999999999996, 1022, 1024, endless, -endless}},
	} {
		for _, missing := range []api.Side{left, right} {
			c.n.Missing = missing
			g := treeOf(c.n, leafOf(-7), leafOf(8))
			l, r := c.left, c.right
			if missing == left {
				l = append(slices.Clone(l), nans...)
			} else {
				r = append(slices.Clone(r), nans...)
			}
			marks, masks := []api.Mark{{Node: 0, From: 0, To: 1}}, [][]uint64{{2}}
			for _, x := range l {
				says(t, "left", g, []float64{x}, said{marks: marks, masks: masks, reach: []uint64{3}, exit: 0, value: -7})
			}
			for _, x := range r {
				says(t, "right", g, []float64{x}, said{marks: marks, masks: masks, wrong: marks, reach: []uint64{2}, exit: 1, value: 8})
			}
		}
	}
}

// A tree that leans to the left has one interval within another, all from leaf 0 on; one that leans to the right has a leaf each.
func TestLeaningTrees(t *testing.T) {
	for _, leaves := range []int{2, 3, 10, 63, 64, 65, 127, 128, 129, 1000, api.MaxLeaves} {
		toLeft, _ := Marks(chain(leaves, left))
		toRight, _ := Marks(chain(leaves, right))
		if len(toLeft) != leaves-1 || len(toRight) != leaves-1 {
			t.Fatalf("13.1: %d and %d marks of %d leaves", len(toLeft), len(toRight), leaves)
		}
		for i := range leaves - 1 {
			if want := (api.Mark{Node: 2 * i, From: 0, To: leaves - 1 - i}); toLeft[i] != want {
				t.Fatalf("13.1: %d leaves to the left: %v, not %v", leaves, toLeft[i], want)
			}
			if want := (api.Mark{Node: 2 * i, From: i, To: i + 1}); toRight[i] != want {
				t.Fatalf("13.1: %d leaves to the right: %v, not %v", leaves, toRight[i], want)
			}
		}
		for _, wrong := range []int{0, 1, leaves / 2, leaves - 2, leaves - 1} { // the first so many nodes are
			x := []float64{float64(wrong) - 0.5}
			if k, v, why := Exit(chain(leaves, right), x); why != api.OK || k != wrong || v != int64(wrong) {
				t.Errorf("13.3: %d leaves to the right, %d wrong: %d, %d, %d", leaves, wrong, k, v, why)
			}
			k, v, why := Exit(chain(leaves, left), x)
			if want := leaves - 1; wrong > 0 && (why != api.OK || k != want || v != 0) {
				t.Errorf("13.3: %d leaves to the left, %d wrong: %d, %d, %d", leaves, wrong, k, v, why)
			} else if wrong == 0 && (why != api.OK || k != 0 || v != int64(want)) {
				t.Errorf("13.3: %d leaves to the left, none wrong: %d, %d, %d", leaves, k, v, why)
			}
		}
	}
}

// Masks have one word up to 64 leaves, and then two.
func TestWordsOfMasks(t *testing.T) {
	for leaves, words := range map[int]int{2: 1, 63: 1, 64: 1, 65: 2, 127: 2, 128: 2, 129: 3, api.MaxLeaves: 64} {
		for _, g := range []api.Tree{chain(leaves, left), chain(leaves, right), bushy(leaves)} {
			l, why := Masks(g)
			if why != api.OK || len(l) != leaves-1 {
				t.Fatalf("13.1: %d masks of %d leaves: %d", len(l), leaves, why)
			}
			for _, m := range l {
				if len(m) != words || bits.Highest(m) != leaves-1 {
					t.Fatalf("13.1: a mask of %d leaves has %d words, and the last leaf %d", leaves, len(m), bits.Highest(m))
				}
			}
			for _, x := range [][]float64{{-1, -1}, {nan, nan}, {endless, endless}} {
				if r, why := Reach(g, x); why != api.OK || len(r) != words || bits.Highest(r) != leaves-1 {
					t.Fatalf("13.3: Reach of %d leaves at %v: %v, %d", leaves, x, r, why)
				}
			}
		}
	}
	const all = math.MaxUint64
	for leaves, want := range map[int][][]uint64{ // the first mask, the last one, Reach if none is false
		63: {{1 << 62}, {all>>1 - 1}, {all >> 1}}, 64: {{1 << 63}, {all - 1}, {all}}, 65: {{0, 1}, {all - 1, 1}, {all, 1}},
	} {
		l, _ := Masks(chain(leaves, left))
		r, _ := Reach(chain(leaves, left), []float64{-1})
		if !slices.Equal(l[0], want[0]) || !slices.Equal(l[leaves-2], want[1]) || !slices.Equal(r, want[2]) {
			t.Errorf("13.1, 13.3: %d leaves: %x, %x, %x", leaves, l[0], l[leaves-2], r)
		}
	}
}

// A vector may be longer than any Feature asks for; what stands behind is not looked at.
func TestLongVectors(t *testing.T) {
	short, _ := False(grown(), []float64{2, 0.6})
	for _, more := range [][]float64{{0}, {nan}, {endless, nan, -1, 5}, make([]float64, api.MaxFeatures)} {
		x := append([]float64{2, 0.6}, more...)
		l, why := False(grown(), x)
		k, v, _ := Exit(grown(), x)
		if why != api.OK || !slices.Equal(l, short) || k != 2 || v != 30 {
			t.Errorf("13.2, 13.3: %d numbers: %v, %d; %d, %d", len(x), l, why, k, v)
		}
	}
	last := treeOf(catsOf(api.MaxFeatures-1, left, 1, 2, 1), leafOf(1), leafOf(2))
	x := make([]float64, api.MaxFeatures)
	if _, v, why := Exit(last, x); why != api.OK || v != 2 {
		t.Error("13.3: the last feature:", v, why)
	}
	if _, _, why := Exit(last, x[1:]); why != api.ErrVector {
		t.Error("13.3: one number fewer:", why)
	}
}

// P5: what trees say one by one by their masks adds up to what the ensemble says.
func TestScoresByExits(t *testing.T) {
	r := source()
	for range 300 {
		e := api.Ensemble{Features: []string{"a", "b", "c", "d"}, Outputs: 2, Base: []int64{5, -6}}
		for range r.IntN(6) {
			g := someTree(r, 1+r.IntN(80), 4)
			g.Output = r.IntN(2)
			e.Trees = append(e.Trees, g)
		}
		for range 10 {
			x := someVector(r, 4)
			sums := []int64{5, -6}
			for _, g := range e.Trees {
				_, v, _ := Exit(g, x)
				sums[g.Output] += v
			}
			if s, why := trees.Score(e, x); why != api.OK || !slices.Equal(s, sums) {
				t.Fatalf("P5: %v at %v: %v by exits, %v by descent", e, x, sums, s)
			}
		}
	}
}

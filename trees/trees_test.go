package trees

import (
	"math"
	"math/rand/v2"
	"reflect"
	"slices"
	"testing"
	"unsafe"

	"thicket/api"
)

const (
	left  = api.SideLeft
	right = api.SideRight
)

var (
	nan     = math.NaN()
	endless = math.Inf(1)
	minus0  = math.Copysign(0, -1)
)

func source() *rand.Rand { return rand.New(rand.NewPCG(7, 7)) }

func leafOf(v int64) api.Node { return api.Node{Kind: api.NodeLeaf, Value: v} }

func numberOf(feature int, threshold float64, missing api.Side, l, r int) api.Node {
	return api.Node{Kind: api.NodeNumber, Feature: feature, Threshold: threshold, Missing: missing, Left: l, Right: r}
}

func catsOf(feature int, missing api.Side, l, r int, cats ...int) api.Node {
	return api.Node{Kind: api.NodeCats, Feature: feature, Cats: cats, Missing: missing, Left: l, Right: r}
}

func treeOf(l ...api.Node) api.Tree { return api.Tree{Nodes: l} }

// grown is the chapter's example.
func grown() api.Tree {
	return treeOf(numberOf(1, 0.5, right, 2, 1), leafOf(30), catsOf(0, left, 3, 4, 1, 3), leafOf(10), leafOf(20))
}

// chain is a tree of so many inner nodes, all on one way; its leaves' values rise from 0 on, by their number.
func chain(inner int, side api.Side) api.Tree {
	var t api.Tree
	for i := range inner {
		n := numberOf(0, float64(i), side, 2*i+1, 2*i+2)
		if side == left {
			n.Left, n.Right = n.Right, n.Left
		}
		t.Nodes = append(t.Nodes, n, leafOf(int64(i)))
	}
	t.Nodes = append(t.Nodes, leafOf(int64(inner)))
	return t
}

// someTree has so many leaves, its nodes numbered at random; it asks for the features below features.
func someTree(r *rand.Rand, leaves, features int) api.Tree {
	anew := r.Perm(2*leaves - 2)
	at := func(i int) int { // node 0 stays the first one
		if i == 0 {
			return 0
		}
		return anew[i-1] + 1
	}
	t := api.Tree{Output: r.IntN(3), Nodes: make([]api.Node, 2*leaves-1)}
	many := 0
	var grow func(leaves int) int
	grow = func(leaves int) int {
		i := at(many)
		many++
		if leaves == 1 {
			t.Nodes[i] = leafOf(r.Int64N(2000) - 1000)
			return i
		}
		n := someSplit(r, features)
		ofLeft := 1 + r.IntN(leaves-1)
		n.Left = grow(ofLeft)
		n.Right = grow(leaves - ofLeft)
		t.Nodes[i] = n
		return i
	}
	grow(leaves)
	return t
}

// someSplit is an inner node, its Left and Right not yet told.
func someSplit(r *rand.Rand, features int) api.Node {
	missing := []api.Side{left, right}[r.IntN(2)]
	feature := r.IntN(features)
	if r.IntN(3) > 0 {
		return numberOf(feature, []float64{0, minus0, 0.5, -0.5, 1, 2, 3, endless, -endless, math.MaxFloat64, 5e-324}[r.IntN(11)], missing, 0, 0)
	}
	var cats []int
	for _, c := range []int{0, 1, 2, 3, 7, 1023} {
		if r.IntN(2) == 0 {
			cats = append(cats, c)
		}
	}
	if len(cats) == 0 {
		cats = []int{5}
	}
	return catsOf(feature, missing, 0, 0, cats...)
}

func someVector(r *rand.Rand, features int) []float64 {
	x := make([]float64, features)
	for i := range x {
		x[i] = []float64{0, minus0, 0.5, -0.5, 1, 1.5, 2, 3, 5, 7, 1023, 1024, -1, endless, -endless, nan, math.Float64frombits(0xfff0000000000001), 5e-324, math.MaxFloat64, math.Nextafter(0.5, 1)}[r.IntN(20)]
	}
	return x
}

// someTrees are trees of all sizes up to 9 leaves, and some greater ones.
func someTrees(r *rand.Rand, each int) []api.Tree {
	var l []api.Tree
	for leaves := 1; leaves <= 9; leaves++ {
		for range each {
			l = append(l, someTree(r, leaves, 4))
		}
	}
	for range each / 10 {
		l = append(l, someTree(r, 10+r.IntN(100), 4))
	}
	return l
}

// leavesBelow, innerBelow, depthBelow say by calls that nest what the chapter says of a node.
func leavesBelow(l []api.Node, i int) []int {
	if n := l[i]; n.Kind != api.NodeLeaf {
		return append(leavesBelow(l, n.Left), leavesBelow(l, n.Right)...)
	}
	return []int{i}
}

func innerBelow(l []api.Node, i int) []int {
	if n := l[i]; n.Kind != api.NodeLeaf {
		return append(append([]int{i}, innerBelow(l, n.Left)...), innerBelow(l, n.Right)...)
	}
	return nil
}

func depthBelow(l []api.Node, i int) int {
	if n := l[i]; n.Kind != api.NodeLeaf {
		return 1 + max(depthBelow(l, n.Left), depthBelow(l, n.Right))
	}
	return 0
}

func TestExampleOfNodes(t *testing.T) {
	g := grown()
	if why, at := Shape(g); why != api.OK || at != 0 {
		t.Error("7.1: example 1:", why, at)
	}
	if l, why := Leaves(g); why != api.OK || !slices.Equal(l, []int{3, 4, 1}) {
		t.Error("7.2: Leaves:", l, why)
	}
	if l, why := Inner(g); why != api.OK || !slices.Equal(l, []int{0, 2}) {
		t.Error("7.2: Inner:", l, why)
	}
	if d, why := Depth(g); why != api.OK || d != 2 {
		t.Error("7.2: Depth:", d, why)
	}
}

func TestNodesOfALeaf(t *testing.T) {
	g := treeOf(leafOf(5))
	if l, why := Leaves(g); why != api.OK || !slices.Equal(l, []int{0}) {
		t.Error("7.2: Leaves:", l, why)
	}
	if l, why := Inner(g); why != api.OK || len(l) != 0 {
		t.Error("7.2: Inner:", l, why)
	}
	if d, why := Depth(g); why != api.OK || d != 0 {
		t.Error("7.2: Depth:", d, why)
	}
}

func TestNodesOfAnyTrees(t *testing.T) {
	for _, g := range someTrees(source(), 100) {
		if why, at := Shape(g); why != api.OK || at != 0 {
			t.Fatalf("7.1: %v: %d at %d", g, why, at)
		}
		if l, why := Leaves(g); why != api.OK || !slices.Equal(l, leavesBelow(g.Nodes, 0)) {
			t.Fatalf("7.2: Leaves of %v: %v, %d", g, l, why)
		}
		if l, why := Inner(g); why != api.OK || !slices.Equal(l, innerBelow(g.Nodes, 0)) {
			t.Fatalf("7.2: Inner of %v: %v, %d", g, l, why)
		}
		if d, why := Depth(g); why != api.OK || d != depthBelow(g.Nodes, 0) {
			t.Fatalf("7.2: Depth of %v: %d, %d", g, d, why)
		}
	}
}

// A tree may be as deep as it has inner nodes: no call may nest as deep.
func TestDeepTrees(t *testing.T) {
	const deep = 1 << 17
	for _, side := range []api.Side{left, right} {
		g := chain(deep, side)
		if why, _ := Shape(g); why != api.OK {
			t.Fatal("7.1: deep:", why)
		}
		if d, why := Depth(g); why != api.OK || d != deep {
			t.Error("7.2: deep:", d, why)
		}
		l, _ := Leaves(g)
		inner, _ := Inner(g)
		if len(l) != deep+1 || len(inner) != deep || inner[deep-1] != 2*(deep-1) {
			t.Error("7.2: deep:", len(l), len(inner))
		}
		if w, why := Way(g, []float64{nan}); why != api.OK || len(w) != deep+1 || w[deep] != 2*deep {
			t.Error("7.4: deep:", len(w), why)
		}
		c, why := Canon(g)
		if why != api.OK || len(c.Nodes) != len(g.Nodes) || c.Nodes[0].Left != 1 {
			t.Error("7.6: deep:", why)
		}
	}
}

// Each of these calls has Shape's error, and nothing beside it.
func TestErrorsOfShape(t *testing.T) {
	split := grown()
	split.Nodes[2].Cats = nil
	loose := treeOf(leafOf(1), leafOf(2))
	for want, trees := range map[api.Errno][]api.Tree{api.ErrShape: {{}, {Output: 3, Nodes: []api.Node{}}, loose}, api.ErrSplit: {split, treeOf(api.Node{})}} {
		for _, g := range trees {
			if why, _ := Shape(g); why != want {
				t.Errorf("7.1: Shape of %v: %d", g, why)
			}
			if l, why := Leaves(g); why != want || l != nil {
				t.Errorf("7.1: Leaves of %v: %v, %d", g, l, why)
			}
			if l, why := Inner(g); why != want || l != nil {
				t.Errorf("7.1: Inner of %v: %v, %d", g, l, why)
			}
			if d, why := Depth(g); why != want || d != 0 {
				t.Errorf("7.1: Depth of %v: %d, %d", g, d, why)
			}
			for _, x := range [][]float64{nil, {1, 2}} { // ahead of ErrVector
				if w, why := Way(g, x); why != want || w != nil {
					t.Errorf("7.1: Way of %v: %v, %d", g, w, why)
				}
				if i, v, why := Leaf(g, x); why != want || i != 0 || v != 0 {
					t.Errorf("7.1: Leaf of %v: %d, %d, %d", g, i, v, why)
				}
			}
			if c, why := Canon(g); why != want || c.Output != 0 || c.Nodes != nil {
				t.Errorf("7.1: Canon of %v: %v, %d", g, c, why)
			}
		}
	}
}

// whole is an ensemble with the spare room of its lists, in memory of its own: what it was, to be held against what it is.
func whole(e api.Ensemble) api.Ensemble {
	w := api.Ensemble{Name: e.Name, Outputs: e.Outputs, Features: slices.Concat(e.Features[:cap(e.Features)]), Base: slices.Concat(e.Base[:cap(e.Base)])}
	for _, t := range e.Trees[:cap(e.Trees)] {
		g := api.Tree{Output: t.Output}
		for _, n := range t.Nodes[:cap(t.Nodes)] {
			n.Cats = slices.Concat(n.Cats[:cap(n.Cats)])
			g.Nodes = append(g.Nodes, n)
		}
		w.Trees = append(w.Trees, g)
	}
	return w
}

// roomy is an ensemble, each of its lists with spare room in which something stands.
func roomy(e api.Ensemble) api.Ensemble {
	e.Features = append(slices.Concat(e.Features), "spare", "room")[:len(e.Features)]
	e.Base = append(slices.Concat(e.Base), 77, 78)[:len(e.Base)]
	trees := make([]api.Tree, 0, len(e.Trees)+1)
	for _, t := range e.Trees {
		nodes := make([]api.Node, 0, len(t.Nodes)+1)
		for _, n := range t.Nodes {
			n.Cats = append(slices.Concat(n.Cats), 901, 902)[:len(n.Cats)]
			nodes = append(nodes, n)
		}
		nodes = append(nodes, leafOf(99))[:len(t.Nodes)]
		trees = append(trees, api.Tree{Output: t.Output, Nodes: nodes})
	}
	e.Trees = append(trees, api.Tree{Output: 99})[:len(e.Trees)]
	return e
}

// room is where a list's memory begins and ends, its spare room included.
type room struct{ from, to uintptr }

func roomOf[T any](l []T) room {
	var one T
	from := uintptr(unsafe.Pointer(unsafe.SliceData(l)))
	return room{from, from + uintptr(cap(l))*unsafe.Sizeof(one)}
}

func roomOfText(s string) room {
	from := uintptr(unsafe.Pointer(unsafe.StringData(s)))
	return room{from, from + uintptr(len(s))}
}

// roomsOf are those of all lists and texts of an ensemble that have any.
func roomsOf(e api.Ensemble) []room {
	l := []room{roomOfText(e.Name), roomOf(e.Features), roomOf(e.Base), roomOf(e.Trees)}
	for _, s := range e.Features {
		l = append(l, roomOfText(s))
	}
	for _, t := range e.Trees {
		l = append(l, roomsOfTree(t)...)
	}
	return l
}

func roomsOfTree(t api.Tree) []room {
	l := []room{roomOf(t.Nodes)}
	for _, n := range t.Nodes {
		l = append(l, roomOf(n.Cats))
	}
	return l
}

// apart tells whether no two rooms have a byte in common.
func apart(l ...room) bool {
	l = slices.DeleteFunc(l, func(r room) bool { return r.from == r.to })
	slices.SortFunc(l, func(a, b room) int {
		if a.from < b.from {
			return -1
		}
		return 1
	})
	for i := 1; i < len(l); i++ {
		if l[i].from < l[i-1].to {
			return false
		}
	}
	return true
}

func TestMemory(t *testing.T) {
	r := source()
	for range 200 {
		e := roomy(someEnsemble(r, 1+r.IntN(4)))
		e.Name = string([]byte("name"))
		before := whole(e)
		x := append(someVector(r, len(e.Features)), 7, 7)[:len(e.Features)]
		at := slices.Concat(x[:cap(x)])
		rooms := append(roomsOf(e), roomOf(x))
		for _, g := range e.Trees {
			leaves, _ := Leaves(g)
			inner, _ := Inner(g)
			Depth(g)
			way, _ := Way(g, x)
			Leaf(g, x)
			c, _ := Canon(g)
			again, _ := Leaves(g)
			rooms = append(rooms, roomOf(leaves), roomOf(inner), roomOf(way), roomOf(again))
			rooms = append(rooms, roomsOfTree(c)...)
		}
		s, _ := Score(e, x)
		m, _ := Model(e)
		c := Copy(e)
		Same(e, c)
		rooms = append(append(append(rooms, roomOf(s)), roomsOf(m)...), roomsOf(c)...)
		if !apart(rooms...) {
			t.Fatal("7.8: answers share memory")
		}
		if !reflect.DeepEqual(whole(e), before) || !slices.EqualFunc(x[:cap(x)], at, func(a, b float64) bool { return math.Float64bits(a) == math.Float64bits(b) }) {
			t.Fatal("7.8: what is handed in was changed")
		}
	}
}

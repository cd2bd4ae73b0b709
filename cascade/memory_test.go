package cascade

import (
	"bytes"
	"cmp"
	"fmt"
	"math"
	"slices"
	"testing"
	"testing/synctest"
	"unsafe"

	"thicket/api"
	"thicket/rules"
	"thicket/trees"
)

// room is a list's memory, its spare room included.
type room []byte

func roomOf[T any](l []T) room {
	var one T
	return unsafe.Slice((*byte)(unsafe.Pointer(unsafe.SliceData(l))), cap(l)*int(unsafe.Sizeof(one)))
}

func (r room) from() uintptr { return uintptr(unsafe.Pointer(unsafe.SliceData(r))) }

func (r room) to() uintptr { return r.from() + uintptr(len(r)) }

func roomsOfTree(g api.Tree) []room {
	l := []room{roomOf(g.Nodes)}
	for _, n := range g.Nodes {
		l = append(l, roomOf(n.Cats))
	}
	return l
}

func roomsOfEnsemble(e api.Ensemble) []room {
	l := []room{roomOf(e.Features), roomOf(e.Base), roomOf(e.Trees)}
	for _, g := range e.Trees {
		l = append(l, roomsOfTree(g)...)
	}
	return l
}

// apart tells whether no two rooms have a byte in common.
func apart(l ...room) bool {
	l = slices.DeleteFunc(l, func(r room) bool { return len(r) == 0 })
	slices.SortFunc(l, func(a, b room) int { return cmp.Compare(a.from(), b.from()) })
	for i := 1; i < len(l); i++ {
		if l[i].from() < l[i-1].to() {
			return false
		}
	}
	return true
}

// bytesOf is what stands in rooms, byte by byte.
func bytesOf(l []room) []byte { return slices.Concat(l...) }

// fill writes over a list, its spare room included.
func fill[T any](l []T, v T) {
	for i := range l[:cap(l)] {
		l[:cap(l)][i] = v
	}
}

// spare is a list with room behind it in which something stands.
func spare[T any](l []T, behind T) []T {
	return append(append(make([]T, 0, len(l)+3), l...), behind, behind)[:len(l)]
}

func roomyTree(g api.Tree) api.Tree {
	nodes := slices.Clone(g.Nodes)
	for i, n := range nodes {
		nodes[i].Cats = spare(n.Cats, -7)
	}
	return api.Tree{Output: g.Output, Nodes: spare(nodes, api.Node{Kind: 77})}
}

// roomy is an ensemble in lists with room behind them, in which wrong things stand.
func roomy(e api.Ensemble) api.Ensemble {
	e = trees.Copy(e)
	for i, g := range e.Trees {
		e.Trees[i] = roomyTree(g)
	}
	e.Trees = spare(e.Trees, api.Tree{Output: -7})
	e.Base, e.Features = spare(e.Base, -7), spare(e.Features, "?")
	return e
}

func spoil(e api.Ensemble) {
	for _, g := range e.Trees {
		for _, n := range g.Nodes {
			fill(n.Cats, -9)
		}
		fill(g.Nodes, api.Node{Feature: -9})
	}
	fill(e.Trees, api.Tree{Output: -9})
	fill(e.Base, -9)
	fill(e.Features, "?")
}

// answers are those of each call that takes these, as a text, and their lists.
func answers(e api.Ensemble, l [][]float64, order []int) (string, []room) {
	said, rooms := "", []room{}
	for _, x := range l {
		for n := range len(e.Trees) + 2 {
			b, why := Bounds(e, x, n)
			said += fmt.Sprint(b, why)
			rooms = append(rooms, roomOf(b))
		}
		above, n, why := Above(e, x, 1, 3)
		class, m, no := Class(e, x)
		said += fmt.Sprint(above, n, why, class, m, no, ";")
	}
	for k := range len(l) + 2 {
		first, n, why := Top(e, l, 0, k)
		said += fmt.Sprint(first, n, why)
		rooms = append(rooms, roomOf(first))
	}
	plan, why := Plan(e)
	other, no := Order(e, order)
	said += fmt.Sprint(plan, why, other, no)
	return said, append(append(rooms, roomOf(plan)), roomsOfEnsemble(other)...)
}

func TestMemory(t *testing.T) {
	r := source()
	for i := range 300 {
		plain := someEnsemble(r, r.IntN(5), 2)
		order := r.Perm(len(plain.Trees))
		var vectors [][]float64
		for range r.IntN(4) {
			vectors = append(vectors, someVector(r))
		}
		switch i % 10 { // calls that are refused change nothing either
		case 0:
			plain.Outputs = 1
		case 1:
			vectors = append(vectors, nil)
		case 2:
			order = append(order, 1)
		}
		want, _ := answers(plain, vectors, order)
		e, l, o := roomy(plain), spare(slices.Clone(vectors), []float64{nan}), spare(order, -7)
		given := append(roomsOfEnsemble(e), roomOf(l), roomOf(o))
		for i, x := range l {
			l[i] = spare(x, nan)
			given = append(given, roomOf(l[i]))
		}
		before := bytesOf(given)
		said, rooms := answers(e, l, o)
		again, others := answers(e, l, o)
		if said != want || again != want {
			t.Fatalf("P3: a capacity is seen, or an answer is another the second time: %s, not %s", said, want)
		}
		if !bytes.Equal(bytesOf(given), before) {
			t.Fatal("P24.6: what is handed in was changed")
		}
		if !apart(slices.Concat(given, rooms, others)...) {
			t.Fatal("P24.6: answers share memory")
		}
		kept := bytesOf(others)
		for _, r := range rooms {
			clear(r)
		}
		if said, _ := answers(e, l, o); said != want {
			t.Fatal("P24.6: an answer is kept")
		}
		spoil(e)
		for _, x := range l {
			fill(x, 7)
		}
		fill(l, nil)
		fill(o, -9)
		if !bytes.Equal(bytesOf(others), kept) {
			t.Fatal("P24.6: what is handed in is kept")
		}
	}
}

// nil and empty lists are alike.
func TestEmptyLists(t *testing.T) {
	e := example()
	for i := range e.Trees {
		for j := range e.Trees[i].Nodes {
			e.Trees[i].Nodes[j].Cats = []int{7}[:0]
		}
	}
	isBounds(t, "empty lists", e, at(5), 1, 11, 14)
	isTop(t, "empty lists", e, vectors(0, 5, 1.5), 0, 1, 6, 1)
	none := ensemble(1)
	none.Trees = []api.Tree{}
	isPlan(t, "an empty list of trees", none)
	isClass(t, "an empty list of trees", none, at(1), 0, 0)
	noClass(t, "an empty vector", none, []float64{}, api.ErrVector)
	noClass(t, "no vector", none, nil, api.ErrVector)
}

// Calls at one time have nothing to do with one another; no goroutine is left behind.
func TestAtOneTime(t *testing.T) {
	r := source()
	e, l := someEnsemble(r, 9, 2), [][]float64{someVector(r), someVector(r), someVector(r)}
	order := r.Perm(9)
	want, _ := answers(e, l, order)
	said := make([]string, 8)
	synctest.Test(t, func(*testing.T) { // is back when each goroutine has ended, and panics if one never will
		for i := range said {
			go func() { said[i], _ = answers(e, l, order) }()
		}
	})
	for _, s := range said {
		if s != want {
			t.Fatal("P4: calls at one time answer otherwise")
		}
	}
}

// Any ensembles, vectors, numbers: no call panics, each ends, and just the right ones are taken.
func TestAnything(t *testing.T) {
	r := source()
	odd := func() int {
		return []int{0, 0, 1, 1, 2, 3, -1, math.MinInt, math.MaxInt, r.Int()}[r.IntN(10)]
	}
	few := func() int {
		if r.IntN(4) > 0 {
			return r.IntN(4)
		}
		return odd()
	}
	taken := 0
	for range 30000 {
		e := ensemble(1 + r.IntN(2))
		for range r.IntN(3) {
			g := api.Tree{Output: r.IntN(2) * odd()}
			for range r.IntN(4) {
				n := leafOf([]int64{0, 1, math.MaxInt64, math.MinInt64, 1 << 61, r.Int64()}[r.IntN(6)])
				if r.IntN(3) == 0 {
					n = api.Node{Kind: api.NodeKind(r.IntN(5)), Feature: few(), Threshold: someNumber(r), Cats: []int{few(), few()}[:r.IntN(3)], Missing: api.Side(r.IntN(4)), Left: few(), Right: few()}
				}
				g.Nodes = append(g.Nodes, n)
			}
			e.Trees = append(e.Trees, g)
		}
		if r.IntN(9) == 0 {
			e.Outputs = odd()
		}
		x := make([]float64, r.IntN(3))
		for i := range x {
			x[i] = someNumber(r)
		}
		var whys []api.Errno
		add := func(why api.Errno) { whys = append(whys, why) }
		_, why := Bounds(e, x, odd())
		add(why)
		_, _, why = Above(e, x, odd(), r.Int64())
		add(why)
		_, _, why = Class(e, x)
		add(why)
		_, _, why = Top(e, [][]float64{x, x}, odd(), odd())
		add(why)
		_, no := Plan(e)
		_, nor := Order(e, []int{odd(), odd()}[:r.IntN(3)])
		right := rules.Valid(e)
		if right != (no == api.OK) || right != (nor != api.ErrModel) {
			t.Fatal("P24.5:", no, nor, e)
		}
		for _, why := range whys {
			if (why == api.ErrModel) == right || right && (why == api.ErrVector) != (len(x) != 1) {
				t.Fatal("the first that applies:", whys, e, x)
			}
		}
		if whys[2] == api.OK {
			taken++
		}
	}
	if taken < 1000 {
		t.Error("few of these are taken:", taken)
	}
}

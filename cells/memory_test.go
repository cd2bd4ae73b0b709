package cells

import (
	"bytes"
	"cmp"
	"fmt"
	"math"
	"slices"
	"testing"
	"testing/synctest"
	"unsafe"

	"thicket/api"
	"thicket/rules"
	"thicket/trees"
)

// room is a list's memory, its spare room included.
type room []byte

func roomOf[T any](l []T) room {
	var one T
	return unsafe.Slice((*byte)(unsafe.Pointer(unsafe.SliceData(l))), cap(l)*int(unsafe.Sizeof(one)))
}

func (r room) from() uintptr { return uintptr(unsafe.Pointer(unsafe.SliceData(r))) }

func (r room) to() uintptr { return r.from() + uintptr(len(r)) }

func roomsOfTree(g api.Tree) []room {
	l := []room{roomOf(g.Nodes)}
	for _, n := range g.Nodes {
		l = append(l, roomOf(n.Cats))
	}
	return l
}

func roomsOfEnsemble(e api.Ensemble) []room {
	l := []room{roomOf(e.Features), roomOf(e.Base), roomOf(e.Trees)}
	for _, g := range e.Trees {
		l = append(l, roomsOfTree(g)...)
	}
	return l
}

// apart tells whether no two rooms have a byte in common.
func apart(l ...room) bool {
	l = slices.DeleteFunc(l, func(r room) bool { return len(r) == 0 })
	slices.SortFunc(l, func(a, b room) int { return cmp.Compare(a.from(), b.from()) })
	for i := 1; i < len(l); i++ {
		if l[i].from() < l[i-1].to() {
			return false
		}
	}
	return true
}

// bytesOf is what stands in rooms, byte by byte.
func bytesOf(l []room) []byte { return slices.Concat(l...) }

// fill writes over a list, its spare room included.
func fill[T any](l []T, v T) {
	for i := range l[:cap(l)] {
		l[:cap(l)][i] = v
	}
}

// spare is a list with room behind it in which something stands.
func spare[T any](l []T, behind T) []T {
	return append(append(make([]T, 0, len(l)+3), l...), behind, behind)[:len(l)]
}

func roomyTree(g api.Tree) api.Tree {
	nodes := slices.Clone(g.Nodes)
	for i, n := range nodes {
		nodes[i].Cats = spare(n.Cats, -7)
	}
	return api.Tree{Output: g.Output, Nodes: spare(nodes, api.Node{Kind: 77})}
}

// roomy is an ensemble in lists with room behind them, in which wrong things stand.
func roomy(e api.Ensemble) api.Ensemble {
	e = trees.Copy(e)
	for i, g := range e.Trees {
		e.Trees[i] = roomyTree(g)
	}
	e.Trees = spare(e.Trees, api.Tree{Output: -7})
	e.Base, e.Features = spare(e.Base, -7), spare(e.Features, "?")
	return e
}

func spoil(e api.Ensemble) {
	for _, g := range e.Trees {
		for _, n := range g.Nodes {
			fill(n.Cats, -9)
		}
		fill(g.Nodes, api.Node{Feature: -9})
	}
	fill(e.Trees, api.Tree{Output: -9})
	fill(e.Base, -9)
	fill(e.Features, "?")
}

// answers are those of each call that takes these, as a text, and their lists.
func answers(l []api.Ensemble, b []api.Span) (string, []room) {
	said, rooms := "", []room{}
	e := l[0]
	for feature := range e.Features {
		p := Points(l, feature)
		said += fmt.Sprint(p, ";")
		rooms = append(rooms, roomOf(p))
	}
	c, why := Cells(l)
	ok, x, no := Equal(e, l[1])
	low, high, nor := Bounds(e, b)
	least, greatest, not := Extremes(e, b)
	said += fmt.Sprint(c, why, ok, x, no, low, high, nor, least, greatest, not)
	rooms = append(rooms, roomOf(c), roomOf(x), roomOf(low), roomOf(high), roomOf(least), roomOf(greatest))
	for _, g := range e.Trees {
		reached, why := Reached(g, b)
		said += fmt.Sprint(reached, why)
		rooms = append(rooms, roomOf(reached))
		for place := range reached {
			x, why := Witness(g, b, place)
			said += fmt.Sprint(x, why)
			rooms = append(rooms, roomOf(x))
		}
	}
	return said, rooms
}

func TestMemory(t *testing.T) {
	r := source()
	for i := range 300 {
		plain := from(someEnsemble(r, r.IntN(4), 2), someEnsemble(r, r.IntN(3), 2))
		plainBox := someBox(r, 2)
		switch i % 10 { // calls that are refused change nothing either
		case 0:
			plain[0].Outputs = 1
		case 1:
			plain[1].Features = plain[1].Features[:1]
		case 2:
			plainBox[0] = span(2, 1)
		}
		want, _ := answers(plain, plainBox)
		l, b := spare(from(roomy(plain[0]), roomy(plain[1])), api.Ensemble{Outputs: -7}), spare(plainBox, span(2, 1))
		given := slices.Concat([]room{roomOf(l), roomOf(b)}, roomsOfEnsemble(l[0]), roomsOfEnsemble(l[1]))
		before := bytesOf(given)
		said, rooms := answers(l, b)
		again, others := answers(l, b)
		if said != want || again != want {
			t.Fatalf("P3: a capacity is seen, or an answer is another the second time: %s, not %s", said, want)
		}
		if !bytes.Equal(bytesOf(given), before) {
			t.Fatal("23.5: what is handed in was changed")
		}
		if !apart(slices.Concat(given, rooms, others)...) {
			t.Fatal("23.5: answers share memory")
		}
		kept := bytesOf(others)
		for _, r := range rooms {
			fill(r, 0xFF)
		}
		if said, _ := answers(l, b); said != want {
			t.Fatal("23.5: an answer is kept")
		}
		spoil(l[0])
		spoil(l[1])
		fill(b, span(nan, nan))
		if !bytes.Equal(bytesOf(others), kept) {
			t.Fatal("23.5: what is handed in is kept")
		}
	}
}

// nil and empty lists are alike.
func TestEmptyLists(t *testing.T) {
	e := ensemble(1, below(3, left, leaf(1), among(right, leaf(2), leaf(3), 4)))
	empty := trees.Copy(e)
	for i, n := range empty.Trees[0].Nodes {
		if len(n.Cats) == 0 {
			empty.Trees[0].Nodes[i].Cats = []int{7}[:0]
		}
	}
	isEqual(t, "empty lists", e, empty)
	isBounds(t, "empty lists", empty, everywhere(1), []int64{1}, []int64{3}, []int64{1}, []int64{3})
	isReached(t, "empty lists", empty.Trees[0], everywhere(1), true, true, true)
	none := ensemble(1)
	none.Trees = []api.Tree{}
	isEqual(t, "an empty list of trees", none, ensemble(1))
	isPoints(t, "an empty list of trees", from(none), 0, 0)
	notReached(t, "an empty list of nodes", api.Tree{Nodes: []api.Node{}}, nil, api.ErrShape)
	notReached(t, "an empty box", e.Trees[0], []api.Span{}, api.ErrSize)
	isPoints(t, "an empty list of ensembles", []api.Ensemble{}, 0)
	if c, why := Cells([]api.Ensemble{}); c != nil || why != api.ErrSize {
		t.Error("23.1: an empty list of ensembles:", c, why)
	}
}

// Calls at one time have nothing to do with one another; no goroutine is left behind.
func TestAtOneTime(t *testing.T) {
	r := source()
	l, b := from(someEnsemble(r, 5, 2), someEnsemble(r, 5, 2)), someBox(r, 2)
	want, _ := answers(l, b)
	said := make([]string, 8)
	synctest.Test(t, func(*testing.T) { // is back when each goroutine has ended, and panics if one never will
		for i := range said {
			go func() { said[i], _ = answers(l, b) }()
		}
	})
	for _, s := range said {
		if s != want {
			t.Fatal("P4: calls at one time answer otherwise")
		}
	}
}

// Any trees, ensembles, boxes: no call panics, each ends, and just the right ones are taken.
func TestAnything(t *testing.T) {
	r := source()
	odd := func() int {
		return []int{0, 0, 1, 1, 2, 3, -1, math.MinInt, math.MaxInt, api.MaxFeatures, r.Int()}[r.IntN(11)]
	}
	few := func() int {
		if r.IntN(4) > 0 {
			return r.IntN(4)
		}
		return odd()
	}
	number := func() float64 {
		return []float64{0, minus0, 1, 2, endless, -endless, nan, math.Float64frombits(r.Uint64())}[r.IntN(8)]
	}
	anyTree := func() api.Tree {
		g := api.Tree{Output: r.IntN(2) * odd()}
		for range r.IntN(5) {
			n := leafOf(int64(r.IntN(3)))
			if r.IntN(3) == 0 {
				n = api.Node{Kind: api.NodeKind(r.IntN(5)), Feature: few(), Threshold: number(), Cats: []int{few(), few()}[:r.IntN(3)], Missing: api.Side(r.IntN(4)), Left: few(), Right: few()}
			}
			g.Nodes = append(g.Nodes, n)
		}
		return g
	}
	taken := 0
	for range 20000 {
		l := from(ensemble(1+r.IntN(2)), ensemble(1+r.IntN(2)))
		for i := range l {
			for range r.IntN(3) {
				l[i].Trees = append(l[i].Trees, anyTree())
			}
			if r.IntN(9) == 0 {
				l[i].Outputs = odd()
			}
		}
		var b []api.Span
		for range r.IntN(4) {
			b = append(b, api.Span{Low: number(), High: number(), Lost: r.IntN(2) == 0})
		}
		right := rules.Valid(l[0]) && rules.Valid(l[1])
		if Points(l, few()) != nil && !right {
			t.Fatal("23.1: points of", l)
		}
		_, why := Cells(l)
		_, _, no := Equal(l[0], l[1])
		if (why != api.ErrModel) != right || (no != api.ErrModel) != right {
			t.Fatal("23.1:", why, no, l)
		}
		low, _, why := Bounds(l[0], b)
		if (why != api.ErrModel) != rules.Valid(l[0]) || (why == api.OK) != (low != nil) {
			t.Fatal("23.4:", why, l[0], b)
		}
		if least, _, no := Extremes(l[0], b); no != why || (no == api.OK) != (least != nil) {
			t.Fatal("23.4:", no, l[0], b)
		}
		for _, g := range l[1].Trees {
			shape, _ := trees.Shape(g)
			reached, why := Reached(g, b)
			if shape != api.OK && why != shape || (why == api.OK) != (reached != nil) {
				t.Fatal("23.3:", why, g, b)
			}
			if x, no := Witness(g, b, odd()); why != api.OK && no != why || no != api.OK && x != nil {
				t.Fatal("23.3:", no, g, b)
			}
			if why == api.OK {
				taken++
			}
		}
	}
	if taken < 1000 {
		t.Error("few of these are taken:", taken)
	}
}

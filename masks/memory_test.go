package masks

import (
	"math"
	"reflect"
	"slices"
	"testing"
	"testing/synctest"
	"unsafe"

	"thicket/api"
)

// room is where a list's memory begins and ends, its spare room included.
type room struct{ from, to uintptr }

func roomOf[T any](l []T) room {
	var one T
	from := uintptr(unsafe.Pointer(unsafe.SliceData(l)))
	return room{from, from + uintptr(cap(l))*unsafe.Sizeof(one)}
}

func roomsOfTree(t api.Tree) []room {
	l := []room{roomOf(t.Nodes)}
	for _, n := range t.Nodes {
		l = append(l, roomOf(n.Cats))
	}
	return l
}

func roomsOf(s said) []room {
	l := []room{roomOf(s.marks), roomOf(s.wrong), roomOf(s.masks), roomOf(s.reach)}
	for _, m := range s.masks {
		l = append(l, roomOf(m))
	}
	return l
}

// apart tells whether no two rooms have a byte in common.
func apart(l ...room) bool {
	l = slices.DeleteFunc(l, func(r room) bool { return r.from == r.to })
	slices.SortFunc(l, func(a, b room) int {
		if a.from < b.from {
			return -1
		}
		return 1
	})
	for i := 1; i < len(l); i++ {
		if l[i].from < l[i-1].to {
			return false
		}
	}
	return true
}

// roomy is a tree, each of its lists with spare room in which something stands.
func roomy(t api.Tree) api.Tree {
	nodes := make([]api.Node, 0, len(t.Nodes)+1)
	for _, n := range t.Nodes {
		n.Cats = append(slices.Concat(n.Cats), 901, 902)[:len(n.Cats)]
		nodes = append(nodes, n)
	}
	return api.Tree{Output: t.Output, Nodes: append(nodes, leafOf(99))[:len(t.Nodes)]}
}

// whole is a tree with the spare room of its lists, in memory of its own: what it was, to be held against what it is.
func whole(t api.Tree) api.Tree {
	w := api.Tree{Output: t.Output}
	for _, n := range t.Nodes[:cap(t.Nodes)] {
		n.Cats = slices.Concat(n.Cats[:cap(n.Cats)])
		w.Nodes = append(w.Nodes, n)
	}
	return w
}

func sameBits(a, b []float64) bool {
	return slices.EqualFunc(a, b, func(v, w float64) bool { return math.Float64bits(v) == math.Float64bits(w) })
}

func fill[T any](l []T, v T) {
	for i := range l[:cap(l)] {
		l[:cap(l)][i] = v
	}
}

func TestMemory(t *testing.T) {
	r := source()
	for i := range 400 {
		g := roomy(someTree(r, 1+r.IntN(80), 4))
		x := append(someVector(r, 4), 7, 7)[:4]
		if i%10 == 0 { // a call that is refused changes nothing either
			x = x[:2]
		}
		before, at := whole(g), slices.Clone(x[:cap(x)])
		s, again := asked(g, x), asked(g, x)
		if !reflect.DeepEqual(s, again) {
			t.Fatalf("P3: %v, and then %v", s, again)
		}
		if !reflect.DeepEqual(whole(g), before) || !sameBits(x[:cap(x)], at) {
			t.Fatal("13.4: what is handed in was changed")
		}
		if !apart(slices.Concat(roomsOfTree(g), []room{roomOf(x)}, roomsOf(s), roomsOf(again))...) {
			t.Fatal("13.4: answers share memory")
		}
		// What is done with an answer is not seen in a later one.
		fill(s.marks, api.Mark{Node: -1, From: -1, To: -1})
		fill(s.wrong, api.Mark{Node: -1, From: -1, To: -1})
		fill(s.reach, 5)
		for _, m := range s.masks {
			fill(m, 5)
		}
		if !reflect.DeepEqual(asked(g, x), again) {
			t.Fatal("13.4: something is kept")
		}
	}
}

// An answer hangs on what is in a list, not on its capacity or on whether it is nil.
func TestCapacity(t *testing.T) {
	r := source()
	for range 200 {
		g := someTree(r, 1+r.IntN(20), 4)
		x := someVector(r, 4)
		for i := range g.Nodes {
			if g.Nodes[i].Kind != api.NodeCats {
				g.Nodes[i].Cats = []int{}
			}
		}
		if !reflect.DeepEqual(asked(g, x), asked(roomy(g), append(slices.Clone(x), 1, 2)[:4])) {
			t.Fatal("P3: a capacity is seen")
		}
	}
}

// Calls have nothing to do with one another, even at one time and over one tree, and leave no goroutine behind.
func TestCallsAtOneTime(t *testing.T) {
	g, x := someTree(source(), 200, 4), someVector(source(), 4)
	want := asked(g, x)
	answers := make([]said, 8)
	synctest.Test(t, func(*testing.T) { // is back when each goroutine has ended, and panics if one never will
		for i := range answers {
			go func() { answers[i] = asked(g, x) }()
		}
	})
	for _, s := range answers {
		if !reflect.DeepEqual(s, want) {
			t.Fatal("P4: calls at one time answer otherwise")
		}
	}
}

package lists

import (
	"math"
	"reflect"
	"slices"
	"testing"
	"testing/synctest"
	"unsafe"

	"thicket/api"
)

// room is where a list's memory begins and ends, its spare room included.
type room struct{ from, to uintptr }

func roomOf[T any](l []T) room {
	var one T
	from := uintptr(unsafe.Pointer(unsafe.SliceData(l)))
	return room{from, from + uintptr(cap(l))*unsafe.Sizeof(one)}
}

func roomsOfTrees(trees []api.Tree) []room {
	l := []room{roomOf(trees)}
	for _, g := range trees {
		l = append(l, roomOf(g.Nodes))
		for _, n := range g.Nodes {
			l = append(l, roomOf(n.Cats))
		}
	}
	return l
}

func roomsOfCuts(cuts []api.Cut) []room {
	l := []room{roomOf(cuts)}
	for _, c := range cuts {
		l = append(l, roomOf(c.Cats))
	}
	return l
}

func roomsOfList(l api.List) []room {
	return slices.Concat(roomsOfCuts(l.Numbers), roomsOfCuts(l.Cats), roomsOfCuts(l.Lost))
}

func roomsOfLists(all []api.List) []room {
	l := []room{roomOf(all)}
	for _, one := range all {
		l = append(l, roomsOfList(one)...)
	}
	return l
}

// apart tells whether no two rooms have a byte in common.
func apart(l ...room) bool {
	l = slices.DeleteFunc(l, func(r room) bool { return r.from == r.to })
	slices.SortFunc(l, func(a, b room) int {
		if a.from < b.from {
			return -1
		}
		return 1
	})
	for i := 1; i < len(l); i++ {
		if l[i].from < l[i-1].to {
			return false
		}
	}
	return true
}

// roomyTrees are trees, each of their lists with spare room in which something stands.
func roomyTrees(l []api.Tree) []api.Tree {
	out := make([]api.Tree, 0, len(l)+1)
	for _, g := range l {
		nodes := make([]api.Node, 0, len(g.Nodes)+1)
		for _, n := range g.Nodes {
			n.Cats = append(slices.Concat(n.Cats), 901, 902)[:len(n.Cats)]
			nodes = append(nodes, n)
		}
		out = append(out, api.Tree{Output: g.Output, Nodes: append(nodes, numberOf(0, 77, left, 1, 2))[:len(g.Nodes)]})
	}
	return append(out, treeA())[:len(l)]
}

func wholeTrees(l []api.Tree) []api.Tree {
	var out []api.Tree
	for _, g := range l[:cap(l)] {
		w := api.Tree{Output: g.Output}
		for _, n := range g.Nodes[:cap(g.Nodes)] {
			n.Cats = slices.Concat(n.Cats[:cap(n.Cats)])
			w.Nodes = append(w.Nodes, n)
		}
		out = append(out, w)
	}
	return out
}

func roomyCuts(l []api.Cut) []api.Cut {
	out := make([]api.Cut, 0, len(l)+1)
	for _, c := range l {
		c.Cats = append(slices.Concat(c.Cats), 901, 902)[:len(c.Cats)]
		out = append(out, c)
	}
	return append(out, cut(1, 99, 98, 97, 96))[:len(l)]
}

func roomyList(l api.List) api.List {
	return api.List{Feature: l.Feature, Numbers: roomyCuts(l.Numbers), Cats: roomyCuts(l.Cats), Lost: roomyCuts(l.Lost)}
}

// wholeCuts are cuts with all spare room; thresholds stand as their bits.
func wholeCuts(l []api.Cut) [][]int {
	var out [][]int
	for _, c := range l[:cap(l)] {
		bits := math.Float64bits(c.Threshold)
		out = append(out, append([]int{int(bits >> 32), int(bits & math.MaxUint32), c.Tree, c.From, c.To, len(c.Cats)}, c.Cats[:cap(c.Cats)]...))
	}
	return out
}

func wholeList(l api.List) [][][]int {
	return [][][]int{{{l.Feature}}, wholeCuts(l.Numbers), wholeCuts(l.Cats), wholeCuts(l.Lost)}
}

// spoilCuts writes over all that is a list's.
func spoilCuts(l []api.Cut) {
	for i := range l[:cap(l)] {
		c := &l[:cap(l)][i]
		for k := range c.Cats[:cap(c.Cats)] {
			c.Cats[:cap(c.Cats)][k] = -9
		}
		*c = cut(-9, -9, -9, -9)
	}
}

func TestMemoryOfLists(t *testing.T) {
	r := source()
	for i := range 300 {
		l := roomyTrees(someForest(r, r.IntN(6), 3))
		features := 3
		if i%10 == 0 { // a call that is refused changes nothing either
			features = 1
		}
		before := wholeTrees(l)
		one, _ := Of(l, features)
		two, _ := Of(l, features)
		th, th2 := Thresholds(l, 1), Thresholds(l, 1)
		c, c2 := Categories(l, 1), Categories(l, 1)
		if !reflect.DeepEqual(wholeTrees(l), before) {
			t.Fatal("P14.5: what is handed in was changed")
		}
		if !reflect.DeepEqual(one, two) || !slices.Equal(th, th2) || !slices.Equal(c, c2) {
			t.Fatal("P3: answers otherwise the second time")
		}
		if !apart(slices.Concat(roomsOfTrees(l), roomsOfLists(one), roomsOfLists(two), []room{roomOf(th), roomOf(th2), roomOf(c), roomOf(c2)})...) {
			t.Fatal("P14.5: answers share memory")
		}
		for i := range one {
			spoilCuts(one[i].Numbers)
			spoilCuts(one[i].Cats)
			spoilCuts(one[i].Lost)
		}
		if again, _ := Of(l, features); !reflect.DeepEqual(again, two) || !reflect.DeepEqual(wholeTrees(l), before) {
			t.Fatal("P14.5: something is kept")
		}
	}
}

func TestMemoryOfCuts(t *testing.T) {
	r := source()
	for range 1000 {
		l := roomyList(someList(r))
		x := someNumber(r)
		before := wholeList(l)
		First(l, x)
		Work(l, x)
		f, f2 := False(l, x), False(l, x)
		g, g2 := Groups(l), Groups(l)
		if !reflect.DeepEqual(wholeList(l), before) {
			t.Fatal("P14.5: what is handed in was changed")
		}
		if !sameCuts(f, f2) || len(g) != len(g2) {
			t.Fatal("P3: answers otherwise the second time")
		}
		if !apart(slices.Concat(roomsOfList(l), roomsOfCuts(f), roomsOfCuts(f2), []room{roomOf(g), roomOf(g2)})...) {
			t.Fatal("P14.5: answers share memory")
		}
		spoilCuts(f)
		if !reflect.DeepEqual(wholeList(l), before) || !sameCuts(False(l, x), f2) {
			t.Fatal("P14.5: something is kept")
		}
	}
}

// An answer hangs on what is in a list, not on its capacity or on whether it is nil.
func TestCapacity(t *testing.T) {
	r := source()
	for range 300 {
		l := someForest(r, r.IntN(5), 3)
		a, _ := Of(l, 3)
		b, _ := Of(roomyTrees(l), 3)
		if !sameLists(a, b) || !slices.Equal(Thresholds(l, 0), Thresholds(roomyTrees(l), 0)) || !slices.Equal(Categories(l, 0), Categories(roomyTrees(l), 0)) {
			t.Fatal("P3: a capacity is seen")
		}
		one := someList(r)
		x := someNumber(r)
		if y := roomyList(one); First(one, x) != First(y, x) || Work(one, x) != Work(y, x) || !sameCuts(False(one, x), False(y, x)) || len(Groups(one)) != len(Groups(y)) {
			t.Fatal("P3: a capacity is seen")
		}
	}
}

// Calls have nothing to do with one another, even at one time and over the same trees, and leave no goroutine behind.
func TestCallsAtOneTime(t *testing.T) {
	forest := someForest(source(), 50, 3)
	type answer struct {
		all  []api.List
		cuts [][]api.Cut
		th   []float64
		cats []int
	}
	ask := func() answer {
		var a answer
		a.all, _ = Of(forest, 3)
		for _, l := range a.all {
			a.cuts = append(a.cuts, False(l, 1.5), False(l, nan), l.Numbers[:First(l, 1.5)], make([]api.Cut, Work(l, 0)), make([]api.Cut, len(Groups(l))))
		}
		a.th, a.cats = Thresholds(forest, 1), Categories(forest, 1)
		return a
	}
	want := ask()
	answers := make([]answer, 8)
	synctest.Test(t, func(*testing.T) { // is back when each goroutine has ended, and panics if one never will
		for i := range answers {
			go func() { answers[i] = ask() }()
		}
	})
	for _, a := range answers {
		if !reflect.DeepEqual(a, want) {
			t.Fatal("P4: calls at one time answer otherwise")
		}
	}
}

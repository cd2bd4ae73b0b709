package slim

import (
	"bytes"
	"cmp"
	"fmt"
	"math"
	"slices"
	"testing"
	"testing/synctest"
	"unsafe"

	"thicket/api"
	"thicket/rules"
	"thicket/trees"
)

// room is a list's memory, its spare room included.
type room []byte

func roomOf[T any](l []T) room {
	var one T
	return unsafe.Slice((*byte)(unsafe.Pointer(unsafe.SliceData(l))), cap(l)*int(unsafe.Sizeof(one)))
}

func (r room) from() uintptr { return uintptr(unsafe.Pointer(unsafe.SliceData(r))) }

func (r room) to() uintptr { return r.from() + uintptr(len(r)) }

func roomsOfTree(g api.Tree) []room {
	l := []room{roomOf(g.Nodes)}
	for _, n := range g.Nodes {
		l = append(l, roomOf(n.Cats))
	}
	return l
}

func roomsOfEnsemble(e api.Ensemble) []room {
	l := []room{roomOf(e.Features), roomOf(e.Base), roomOf(e.Trees)}
	for _, g := range e.Trees {
		l = append(l, roomsOfTree(g)...)
	}
	return l
}

// apart tells whether no two rooms have a byte in common.
func apart(l ...room) bool {
	l = slices.DeleteFunc(l, func(r room) bool { return len(r) == 0 })
	slices.SortFunc(l, func(a, b room) int { return cmp.Compare(a.from(), b.from()) })
	for i := 1; i < len(l); i++ {
		if l[i].from() < l[i-1].to() {
			return false
		}
	}
	return true
}

// whole is what stands in rooms, byte by byte.
func whole(l []room) []byte { return slices.Concat(l...) }

// fill writes over a list, its spare room included.
func fill[T any](l []T, v T) {
	for i := range l[:cap(l)] {
		l[:cap(l)][i] = v
	}
}

// spare is a list with room behind it in which something stands.
func spare[T any](l []T, behind T) []T {
	return append(append(make([]T, 0, len(l)+3), l...), behind, behind)[:len(l)]
}

func roomyTree(g api.Tree) api.Tree {
	nodes := slices.Clone(g.Nodes)
	for i, n := range nodes {
		nodes[i].Cats = spare(n.Cats, -7)
	}
	return api.Tree{Output: g.Output, Nodes: spare(nodes, api.Node{Kind: 77})}
}

// roomy is an ensemble in lists with room behind them, in which wrong things stand.
func roomy(e api.Ensemble) api.Ensemble {
	e = trees.Copy(e)
	for i, g := range e.Trees {
		e.Trees[i] = roomyTree(g)
	}
	e.Trees = spare(e.Trees, api.Tree{Output: -7})
	e.Base, e.Features = spare(e.Base, -7), spare(e.Features, "?")
	return e
}

func spoilTree(g api.Tree) {
	for _, n := range g.Nodes {
		fill(n.Cats, -9)
	}
	fill(g.Nodes, api.Node{Feature: -9})
}

func spoil(e api.Ensemble) {
	for _, g := range e.Trees {
		spoilTree(g)
	}
	fill(e.Trees, api.Tree{Output: -9})
	fill(e.Base, -9)
	fill(e.Features, "?")
}

func TestMemoryOfEnsembles(t *testing.T) {
	r := source()
	for i := range 300 {
		plain := someEnsemble(r, r.IntN(6), 2)
		want := slimByWords(plain)
		e := roomy(plain)
		if i%10 == 0 { // a call that is refused changes nothing either
			e.Outputs = 1
		}
		given := roomsOfEnsemble(e)
		before := whole(given)
		a, why := Slim(e)
		b, _ := Slim(e)
		Saved(e)
		if !bytes.Equal(whole(given), before) {
			t.Fatal("P22.5: what is handed in was changed")
		}
		if i%10 == 0 {
			if why != api.ErrModel {
				t.Fatal("P22.4: a wrong ensemble:", why)
			}
			continue
		}
		if !trees.Same(a, want) || !trees.Same(b, want) {
			t.Fatal("P3: a capacity is seen, or an answer is another the second time")
		}
		if !apart(slices.Concat(given, roomsOfEnsemble(a), roomsOfEnsemble(b))...) {
			t.Fatal("P22.5: answers share memory")
		}
		spoil(a)
		if again, _ := Slim(e); !trees.Same(again, want) || !trees.Same(b, want) {
			t.Fatal("P22.5: an answer is kept")
		}
		spoil(e)
		if !trees.Same(b, want) {
			t.Fatal("P22.5: what is handed in is kept")
		}
	}
}

func TestMemoryOfTrees(t *testing.T) {
	r := source()
	for i := range 300 {
		plain := someTree(r, r.IntN(9), 2)
		dead, _ := Dead(plain)
		want, _ := Tree(plain)
		g := roomyTree(plain)
		if i%10 == 0 {
			g.Nodes[len(g.Nodes)-1].Kind = 9
		}
		node := r.IntN(len(g.Nodes))
		given := roomsOfTree(g)
		before := whole(given)
		a, why := Dead(g)
		b, _ := Dead(g)
		c, _ := Tree(g)
		d, _ := Tree(g)
		x, _ := Witness(g, node, 2)
		y, _ := Witness(g, node, 2)
		Witness(g, node, 0)
		Witness(g, -1, 0)
		if !bytes.Equal(whole(given), before) {
			t.Fatal("P22.5: what is handed in was changed")
		}
		if i%10 == 0 {
			if why != api.ErrSplit {
				t.Fatal("P22.1: a wrong tree:", why)
			}
			continue
		}
		if !slices.Equal(a, dead) || !slices.Equal(b, dead) || !trees.Alike(c, want) || !trees.Alike(d, want) {
			t.Fatal("P3: a capacity is seen, or an answer is another the second time")
		}
		if !apart(slices.Concat(given, roomsOfTree(c), roomsOfTree(d), []room{roomOf(a), roomOf(b), roomOf(x), roomOf(y)})...) {
			t.Fatal("P22.5: answers share memory")
		}
		kept := fmt.Sprint(y)
		fill(a, -9)
		fill(x, -9)
		spoilTree(c)
		again, _ := Dead(g)
		anew, _ := Tree(g)
		z, _ := Witness(g, node, 2)
		if !slices.Equal(again, dead) || !trees.Alike(anew, want) || fmt.Sprint(z) != kept || fmt.Sprint(y) != kept {
			t.Fatal("P22.5: an answer is kept")
		}
		spoilTree(g)
		if !slices.Equal(b, dead) || !trees.Alike(d, want) || fmt.Sprint(y) != kept {
			t.Fatal("P22.5: what is handed in is kept")
		}
	}
}

// nil and empty lists are alike.
func TestEmptyLists(t *testing.T) {
	g := within(left, below(3, left, leaf(1), leaf(2)), leaf(3), 4)
	want, _ := Tree(g)
	for i, n := range g.Nodes {
		if len(n.Cats) == 0 {
			g.Nodes[i].Cats = []int{7}[:0]
		}
	}
	isSlim(t, "empty lists", g, want)
	isDead(t, "empty lists", g)
	isSlim(t, "alike, nil and empty", below(1, left, leaf(5), api.Tree{Nodes: []api.Node{{Kind: api.NodeLeaf, Value: 5, Cats: []int{}}}}), leaf(5))
	e := ensemble(1)
	e.Trees = []api.Tree{}
	isSlimmed(t, "an empty list of trees", e, ensemble(1), 0, 0)
	wrongTree(t, "an empty list of nodes", api.Tree{Nodes: []api.Node{}}, api.ErrShape)
}

// Calls at one time have nothing to do with one another; no goroutine is left behind.
func TestAtOneTime(t *testing.T) {
	e := someEnsemble(source(), 20, 3)
	ask := func() string {
		s, why := Slim(e)
		n, m, no := Saved(e)
		out := fmt.Sprint(s, why, n, m, no)
		for _, g := range e.Trees {
			l, _ := Dead(g)
			u, _ := Tree(g)
			x, why := Witness(g, len(g.Nodes)-1, 3)
			out += fmt.Sprint(l, u, x, why)
		}
		return out
	}
	want := ask()
	answers := make([]string, 8)
	synctest.Test(t, func(*testing.T) { // is back when each goroutine has ended, and panics if one never will
		for i := range answers {
			go func() { answers[i] = ask() }()
		}
	})
	for _, a := range answers {
		if a != want {
			t.Fatal("P4: calls at one time answer otherwise")
		}
	}
}

// Any trees and ensembles: no call panics, each ends, and just the right ones are taken.
func TestAnything(t *testing.T) {
	r := source()
	odd := func() int {
		return []int{0, 0, 1, 1, 2, 3, -1, math.MinInt, math.MaxInt, api.MaxFeatures, r.Int()}[r.IntN(11)]
	}
	few := func() int {
		if r.IntN(4) > 0 {
			return r.IntN(4)
		}
		return odd()
	}
	for range 30000 {
		e := ensemble(1)
		for range r.IntN(3) {
			g := api.Tree{Output: r.IntN(2) * odd()}
			for range r.IntN(4) {
				n := leafOf(int64(r.IntN(3)))
				if r.IntN(3) == 0 {
					n = api.Node{Kind: api.NodeKind(r.IntN(5)), Feature: few(), Threshold: []float64{0, 1, endless, nan}[r.IntN(4)], Cats: []int{few(), few()}[:r.IntN(3)], Missing: api.Side(r.IntN(4)), Left: few(), Right: few()}
				}
				g.Nodes = append(g.Nodes, n)
			}
			e.Trees = append(e.Trees, g)
			why, _ := trees.Shape(g)
			if why != api.OK {
				wrongTree(t, "anything", g, why)
			} else if asked(g) < 9 {
				isTree(t, g)
			}
			x, no := Witness(g, odd(), odd())
			if no != api.OK && x != nil || no == api.OK && why != api.OK {
				t.Fatalf("P22.2: %v, %d of %v", x, no, g)
			}
		}
		if rules.Valid(e) {
			if s, why := Slim(e); why != api.OK || !rules.Valid(s) {
				t.Fatalf("P22.6: %v, %d of %v", s, why, e)
			}
		} else {
			refused(t, "anything", e)
		}
		if t.Failed() {
			t.FailNow()
		}
	}
}

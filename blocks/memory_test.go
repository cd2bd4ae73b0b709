package blocks

import (
	"bytes"
	"cmp"
	"reflect"
	"slices"
	"testing"
	"testing/synctest"
	"unsafe"

	"thicket/api"
	"thicket/trees"
)

// room is a list's memory, its spare room included.
type room []byte

func roomOf[T any](l []T) room {
	var one T
	return unsafe.Slice((*byte)(unsafe.Pointer(unsafe.SliceData(l))), cap(l)*int(unsafe.Sizeof(one)))
}

func (r room) from() uintptr { return uintptr(unsafe.Pointer(unsafe.SliceData(r))) }

func (r room) to() uintptr { return r.from() + uintptr(len(r)) }

func roomsOfTrees(trees []api.Tree) []room {
	l := []room{roomOf(trees)}
	for _, g := range trees {
		l = append(l, roomOf(g.Nodes))
		for _, n := range g.Nodes {
			l = append(l, roomOf(n.Cats))
		}
	}
	return l
}

func roomsOfEnsemble(e api.Ensemble) []room {
	return append(roomsOfTrees(e.Trees), roomOf(e.Features), roomOf(e.Base))
}

func roomsOfForm(f api.Form) []room {
	l := []room{roomOf(f.Base), roomOf(f.Blocks)}
	for _, b := range f.Blocks {
		l = append(l, roomOf(b.Leaves), roomOf(b.Values), roomOf(b.Outputs), roomOf(b.Lists))
		for _, v := range b.Values {
			l = append(l, roomOf(v))
		}
		for _, one := range b.Lists {
			for _, cuts := range [][]api.Cut{one.Numbers, one.Cats, one.Lost} {
				l = append(l, roomOf(cuts))
				for _, c := range cuts {
					l = append(l, roomOf(c.Cats))
				}
			}
		}
	}
	return l
}

// apart tells whether no two rooms have a byte in common.
func apart(l ...room) bool {
	l = slices.DeleteFunc(l, func(r room) bool { return len(r) == 0 })
	slices.SortFunc(l, func(a, b room) int { return cmp.Compare(a.from(), b.from()) })
	for i := 1; i < len(l); i++ {
		if l[i].from() < l[i-1].to() {
			return false
		}
	}
	return true
}

// spare is a list with room behind it in which something stands.
func spare[T any](l []T, behind T) []T {
	return append(append(make([]T, 0, len(l)+3), l...), behind, behind)[:len(l)]
}

func roomyEnsemble(e api.Ensemble) api.Ensemble {
	e = trees.Copy(e)
	for i, g := range e.Trees {
		for k, n := range g.Nodes {
			g.Nodes[k].Cats = spare(n.Cats, 901)
		}
		e.Trees[i].Nodes = spare(g.Nodes, numberOf(0, 77, left, 1, 2))
	}
	e.Trees, e.Features, e.Base = spare(e.Trees, treeA()), spare(e.Features, "x"), spare(e.Base, 99)
	return e
}

func roomyForm(f api.Form) api.Form {
	f = Copy(f)
	for i := range f.Blocks {
		b := &f.Blocks[i]
		for k, v := range b.Values {
			b.Values[k] = spare(v, 99)
		}
		for k := range b.Lists {
			for _, cuts := range []*[]api.Cut{&b.Lists[k].Numbers, &b.Lists[k].Cats, &b.Lists[k].Lost} {
				for j, c := range *cuts {
					(*cuts)[j].Cats = spare(c.Cats, 901)
				}
				*cuts = spare(*cuts, cut(77, 76, 75, 74))
			}
		}
		b.Leaves, b.Values, b.Outputs, b.Lists = spare(b.Leaves, 9), spare(b.Values, nil), spare(b.Outputs, 9), spare(b.Lists, api.List{Feature: 9})
	}
	f.Base, f.Blocks = spare(f.Base, 99), spare(f.Blocks, api.Block{First: 99})
	return f
}

// whole is what stands in rooms, byte by byte.
func whole(l []room) []byte { return slices.Concat(l...) }

// spoilForm writes over all that is a form's.
func spoilForm(f api.Form) {
	fill := func(cuts []api.Cut) {
		for i, c := range cuts[:cap(cuts)] {
			for k := range c.Cats[:cap(c.Cats)] {
				c.Cats[:cap(c.Cats)][k] = -9
			}
			cuts[:cap(cuts)][i] = cut(-9, -9, -9, -9)
		}
	}
	for i, b := range f.Blocks[:cap(f.Blocks)] {
		for k := range b.Leaves[:cap(b.Leaves)] {
			b.Leaves[:cap(b.Leaves)][k] = -9
		}
		for k := range b.Outputs[:cap(b.Outputs)] {
			b.Outputs[:cap(b.Outputs)][k] = -9
		}
		for _, v := range b.Values {
			for k := range v[:cap(v)] {
				v[:cap(v)][k] = -9
			}
		}
		for _, l := range b.Lists {
			fill(l.Numbers)
			fill(l.Cats)
			fill(l.Lost)
		}
		f.Blocks[:cap(f.Blocks)][i] = api.Block{First: -9}
	}
	for i := range f.Base[:cap(f.Base)] {
		f.Base[:cap(f.Base)][i] = -9
	}
}

func spoilTrees(l []api.Tree) {
	for i, g := range l[:cap(l)] {
		for k, n := range g.Nodes[:cap(g.Nodes)] {
			for j := range n.Cats[:cap(n.Cats)] {
				n.Cats[:cap(n.Cats)][j] = -9
			}
			g.Nodes[:cap(g.Nodes)][k] = api.Node{Kind: 200}
		}
		l[:cap(l)][i] = api.Tree{Output: -9}
	}
}

func TestMemoryOfEnsembles(t *testing.T) {
	r := source()
	for i := range 300 {
		e := roomyEnsemble(someEnsemble(r, r.IntN(6)))
		if i%10 == 0 { // a call that is refused changes nothing either
			e.Features = e.Features[:1]
		}
		l := spare(someBlocks(r, len(e.Trees)), api.Run{From: 9, To: 99})
		rooms := append(roomsOfEnsemble(e), roomOf(l))
		before := whole(rooms)
		one, why := Of(e, l)
		two, _ := Of(e, l)
		three, _ := Compile(e, 2)
		p, p2 := ask2(Plan(e, 4)), ask2(Plan(e, 4))
		if !bytes.Equal(whole(rooms), before) {
			t.Fatal("15.6: what is handed in was changed")
		}
		if said(one) != said(two) || !slices.Equal(p, p2) {
			t.Fatal("P3: answers otherwise the second time")
		}
		if !apart(slices.Concat(rooms, roomsOfForm(one), roomsOfForm(two), roomsOfForm(three), []room{roomOf(p), roomOf(p2)})...) {
			t.Fatal("15.6: answers share memory")
		}
		spoilForm(one)
		if again, no := Of(e, l); no != why || said(again) != said(two) || !bytes.Equal(whole(rooms), before) {
			t.Fatal("15.6: something is kept")
		}
	}
	a, b := ask2(Split(9, 2)), ask2(Split(9, 2))
	a[0].To = 7
	if !apart(roomOf(a), roomOf(b)) || b[0].To != 2 || ask2(Split(9, 2))[0].To != 2 {
		t.Error("15.6: Split's answers share memory")
	}
}

// ask2 is an answer without its error.
func ask2[T any](v T, _ api.Errno) T { return v }

func TestMemoryOfForms(t *testing.T) {
	r := source()
	for i := range 300 {
		e := someEnsemble(r, r.IntN(6))
		f := roomyForm(compiled(t, e, someBlocks(r, len(e.Trees))))
		if i%10 == 0 {
			f.Features = 0
		}
		rooms := roomsOfForm(f)
		before := whole(rooms)
		one, why := Back(f)
		two, _ := Back(f)
		c, d := Copy(f), Copy(f)
		Check(f)
		if !Same(f, f) || !Same(c, f) || said(c) != said(f) {
			t.Fatal("15.5: a form is not Same as its copy")
		}
		if !bytes.Equal(whole(rooms), before) {
			t.Fatal("15.6: what is handed in was changed")
		}
		if !slices.EqualFunc(one, two, trees.Alike) {
			t.Fatal("P3: answers otherwise the second time")
		}
		if !apart(slices.Concat(rooms, roomsOfTrees(one), roomsOfTrees(two), roomsOfForm(c), roomsOfForm(d))...) {
			t.Fatal("15.6: answers share memory")
		}
		spoilTrees(one)
		spoilForm(c)
		if again, no := Back(f); no != why || !slices.EqualFunc(again, two, trees.Alike) || !Same(d, f) || !bytes.Equal(whole(rooms), before) {
			t.Fatal("15.6: something is kept")
		}
	}
	// A form of any lists is copied, right or not.
	for _, c := range harmful() {
		f := stack()
		c.do(&f, &f.Blocks[1])
		f = roomyForm(f)
		if g := Copy(f); said(g) != said(f) || !apart(append(roomsOfForm(f), roomsOfForm(g)...)...) {
			t.Fatalf("15.5: %s: %s", c.what, said(g))
		}
	}
}

// An answer hangs on what is in a list, not on its capacity or on whether it is nil.
func TestCapacity(t *testing.T) {
	r := source()
	for range 300 {
		e := someEnsemble(r, r.IntN(6))
		l := someBlocks(r, len(e.Trees))
		f, g := compiled(t, e, l), compiled(t, roomyEnsemble(e), spare(l, api.Run{From: 1, To: 2}))
		if said(f) != said(g) || !slices.Equal(ask2(Plan(e, 5)), ask2(Plan(roomyEnsemble(e), 5))) {
			t.Fatal("P3: a capacity is seen")
		}
		if !Same(f, roomyForm(f)) || !slices.EqualFunc(ask2(Back(f)), ask2(Back(roomyForm(f))), trees.Alike) {
			t.Fatal("P3: a capacity is seen")
		}
		if why, _ := Check(roomyForm(f)); why != api.OK {
			t.Fatal("P3: a capacity is seen")
		}
	}
}

// Calls have nothing to do with one another, even at one time and over the same arguments, and leave no goroutine behind.
func TestCallsAtOneTime(t *testing.T) {
	e := someEnsemble(source(), 30)
	f, _ := Compile(e, 7)
	type answer struct {
		form   string
		runs   []api.Run
		trees  []api.Tree
		right  api.Errno
		same   bool
		copied string
	}
	ask := func() answer {
		g, _ := Compile(e, 7)
		why, _ := Check(f)
		return answer{said(g), slices.Concat(ask2(Plan(e, 20)), ask2(Split(30, 4))), ask2(Back(f)), why, Same(f, g), said(Copy(f))}
	}
	want := ask()
	answers := make([]answer, 8)
	synctest.Test(t, func(*testing.T) { // is back when each goroutine has ended, and panics if one never will
		for i := range answers {
			go func() { answers[i] = ask() }()
		}
	})
	for _, a := range answers {
		if !reflect.DeepEqual(a, want) {
			t.Fatal("P4: calls at one time answer otherwise")
		}
	}
}

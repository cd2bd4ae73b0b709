package patch

import (
	"bytes"
	"cmp"
	"fmt"
	"slices"
	"strings"
	"testing"
	"testing/synctest"
	"unsafe"

	"thicket/api"
	"thicket/rules"
	"thicket/trees"
)

// room is a list's memory, its spare room included.
type room []byte

func roomOf[T any](l []T) room {
	var one T
	return unsafe.Slice((*byte)(unsafe.Pointer(unsafe.SliceData(l))), cap(l)*int(unsafe.Sizeof(one)))
}

// textOf is a text's memory.
func textOf(s string) room { return unsafe.Slice(unsafe.StringData(s), len(s)) }

func (r room) from() uintptr { return uintptr(unsafe.Pointer(unsafe.SliceData(r))) }

func (r room) to() uintptr { return r.from() + uintptr(len(r)) }

func roomsOfTrees(l []api.Tree) []room {
	rooms := []room{roomOf(l)}
	for _, g := range l {
		rooms = append(rooms, roomOf(g.Nodes))
		for _, n := range g.Nodes {
			rooms = append(rooms, roomOf(n.Cats))
		}
	}
	return rooms
}

func roomsOfHead(h api.Head) []room {
	rooms := []room{roomOf(h.Features), roomOf(h.Base)}
	for _, name := range append([]string{h.Name}, h.Features...) {
		if len(name) > 1 { // a text of one byte is nobody's
			rooms = append(rooms, textOf(name))
		}
	}
	return rooms
}

func roomsOfEnsemble(e api.Ensemble) []room {
	return slices.Concat(roomsOfHead(headOf(e)), roomsOfTrees(e.Trees))
}

func roomsOfPatch(p api.Patch) []room {
	rooms := slices.Concat(roomsOfHead(p.Old), roomsOfHead(p.New), []room{roomOf(p.Edits)})
	for _, e := range p.Edits {
		rooms = append(rooms, roomsOfTrees(e.Trees)...)
	}
	return rooms
}

// areApart tells whether no two rooms have a byte in common.
func areApart(l ...room) bool {
	l = slices.DeleteFunc(l, func(r room) bool { return len(r) == 0 })
	slices.SortFunc(l, func(a, b room) int { return cmp.Compare(a.from(), b.from()) })
	for i := 1; i < len(l); i++ {
		if l[i].from() < l[i-1].to() {
			return false
		}
	}
	return true
}

// bytesOf is what stands in rooms, byte by byte.
func bytesOf(l []room) []byte { return slices.Concat(l...) }

// fill writes over a list, its spare room included.
func fill[T any](l []T, v T) {
	for i := range l[:cap(l)] {
		l[:cap(l)][i] = v
	}
}

// spare is a list with room behind it in which something stands.
func spare[T any](l []T, behind T) []T {
	return append(append(make([]T, 0, len(l)+3), l...), behind, behind)[:len(l)]
}

func roomyTrees(l []api.Tree) []api.Tree {
	l = trees.Copy(api.Ensemble{Trees: l}).Trees
	for i, g := range l {
		for j, n := range g.Nodes {
			g.Nodes[j].Cats = spare(n.Cats, -7)
		}
		l[i].Nodes = spare(g.Nodes, api.Node{Kind: 77})
	}
	return spare(l, api.Tree{Output: -7})
}

func roomyHead(h api.Head) api.Head {
	h = headOf(trees.Copy(ensembleOf(h, nil)))
	h.Features, h.Base = spare(h.Features, "?"), spare(h.Base, -7)
	return h
}

// roomy is an ensemble in lists with room behind them, in which wrong things stand; so is a patch.
func roomy(e api.Ensemble) api.Ensemble { return ensembleOf(roomyHead(headOf(e)), roomyTrees(e.Trees)) }

func roomyPatch(p api.Patch) api.Patch {
	q := api.Patch{Old: roomyHead(p.Old), New: roomyHead(p.New)}
	for _, e := range p.Edits {
		q.Edits = append(q.Edits, api.Edit{Kind: e.Kind, Many: e.Many, Trees: roomyTrees(e.Trees)})
	}
	q.Edits = spare(q.Edits, api.Edit{Kind: 77})
	return q
}

func spoilTrees(l []api.Tree) {
	for _, g := range l {
		for _, n := range g.Nodes {
			fill(n.Cats, -9)
		}
		fill(g.Nodes, api.Node{Feature: -9})
	}
	fill(l, api.Tree{Output: -9})
}

func spoilHead(h api.Head) {
	fill(h.Features, "?")
	fill(h.Base, -9)
}

func spoil(e api.Ensemble) {
	spoilHead(headOf(e))
	spoilTrees(e.Trees)
}

func spoilPatch(p api.Patch) {
	spoilHead(p.Old)
	spoilHead(p.New)
	for _, e := range p.Edits {
		spoilTrees(e.Trees)
	}
	fill(p.Edits, api.Edit{Kind: 99})
}

// answer is all that is answered of some ensembles and a patch.
type answer struct {
	text    string
	patches []api.Patch
	whole   []api.Ensemble
}

func (a answer) rooms() []room {
	var l []room
	for _, p := range a.patches {
		l = append(l, roomsOfPatch(p)...)
	}
	for _, e := range a.whole {
		l = append(l, roomsOfEnsemble(e)...)
	}
	return l
}

func (a answer) spoil() {
	for _, p := range a.patches {
		spoilPatch(p)
	}
	for _, e := range a.whole {
		spoil(e)
	}
}

// answers are those of each call that takes these. Empty lists are told as nil ones.
func answers(o, a, b api.Ensemble, p api.Patch) answer {
	d, why := Diff(o, a)
	i, no := Invert(p)
	e, nor := Apply(o, p)
	m, not, at := Merge(o, a, b)
	kept, dropped, added, none := Size(p)
	text := fmt.Sprint(d, why, i, no, e, nor, m, not, at, kept, dropped, added, none, Check(p))
	return answer{text, []api.Patch{d, i}, []api.Ensemble{e, m}}
}

// named has names that are long enough to have memory.
func named(e api.Ensemble) api.Ensemble {
	e.Name = strings.Repeat(e.Name, 3)
	for i, name := range e.Features {
		e.Features[i] = strings.Repeat(name, 5)
	}
	return e
}

func TestMemory(t *testing.T) {
	r := source()
	applied, merged := 0, 0
	for n := range 500 {
		stock := append(someStock(r), sorts(0, 1, 2, 3, 5))
		plain := named(someOf(r, stock, r.IntN(6)))
		changed, other := someChanged(r, plain, stock), someChanged(r, plain, stock)
		p := api.Patch{Old: headOf(plain), New: headOf(changed), Edits: editsByWords(plain.Trees, changed.Trees)}
		switch n % 10 { // calls that are refused change nothing either
		case 0:
			plain.Outputs = 1
		case 1:
			p.Old.Name = "another"
		case 2:
			p.Edits = append(p.Edits, api.Edit{Kind: keep})
		case 3:
			p.New.Name = ""
		}
		want := answers(plain, changed, other, p)
		o, a, b, q := roomy(plain), roomy(changed), roomy(other), roomyPatch(p)
		given := slices.Concat(roomsOfEnsemble(o), roomsOfEnsemble(a), roomsOfEnsemble(b), roomsOfPatch(q))
		before := bytesOf(given)
		first, second := answers(o, a, b, q), answers(o, a, b, q)
		if first.text != want.text || second.text != want.text {
			t.Fatalf("P3: a capacity is seen, or an answer is another the second time: %s, not %s", first.text, want.text)
		}
		if !bytes.Equal(bytesOf(given), before) {
			t.Fatal("P28.5: what is handed in was changed")
		}
		if !areApart(slices.Concat(given, first.rooms(), second.rooms())...) {
			t.Fatal("P28.5: answers share memory")
		}
		first.spoil()
		if answers(o, a, b, q).text != want.text || !bytes.Equal(bytesOf(given), before) {
			t.Fatal("P28.5: an answer is kept")
		}
		kept := bytesOf(second.rooms())
		spoil(o)
		spoil(a)
		spoil(b)
		spoilPatch(q)
		if !bytes.Equal(bytesOf(second.rooms()), kept) {
			t.Fatal("P28.5: what is handed in is kept")
		}
		applied, merged = applied+len(second.whole[0].Trees), merged+len(second.whole[1].Trees)
	}
	if applied < 500 || merged < 500 {
		t.Error("few trees are answered:", applied, merged)
	}
}

// One ensemble, one tree, one list of trees in several places: answers have it once for each place.
func TestOneThingInManyPlaces(t *testing.T) {
	g := sorts(0, 1, 2, 3, 5)
	shared := []api.Tree{g, g}
	e := with(shared...)
	p := api.Patch{Old: headOf(e), New: headOf(e), Edits: []api.Edit{{Kind: add, Trees: shared}, {Kind: drop, Trees: shared}, {Kind: add, Trees: shared}}}
	got := answers(e, with(g, g, g, g), e, p)
	if len(got.whole[0].Trees) != 4 || len(got.whole[1].Trees) != 4 {
		t.Fatal("P28.3, P28.4:", got.whole)
	}
	if !areApart(slices.Concat(got.rooms(), roomsOfTrees([]api.Tree{g}), []room{roomOf(shared), roomOf(e.Features), roomOf(e.Base)})...) {
		t.Error("P28.5: answers share memory")
	}
	self, why := Diff(e, e)
	if why != api.OK || !areApart(roomsOfPatch(self)...) {
		t.Error("P28.5: Old and New share memory")
	}
	if m, why, _ := Merge(e, e, e); why != api.OK || !trees.Same(m, e) || !areApart(append(roomsOfEnsemble(m), roomOf(shared), roomOf(g.Nodes), roomOf(g.Nodes[0].Cats))...) {
		t.Error("P28.5: Merge of one ensemble")
	}
}

// emptied has empty lists in the places of nil ones.
func emptiedTrees(l []api.Tree) []api.Tree {
	l = append([]api.Tree{}, roomyTrees(l)...)
	for _, g := range l {
		for j, n := range g.Nodes {
			if len(n.Cats) == 0 {
				g.Nodes[j].Cats = []int{7}[:0]
			}
		}
	}
	return l
}

func emptiedHead(h api.Head) api.Head {
	h.Features, h.Base = append([]string{}, h.Features...), append([]int64{}, h.Base...)
	return h
}

// nil and empty lists are alike: in heads, in edits, in trees.
func TestEmptyLists(t *testing.T) {
	emptied := func(e api.Ensemble) api.Ensemble {
		return ensembleOf(emptiedHead(headOf(e)), emptiedTrees(e.Trees))
	}
	for _, c := range [][3]string{{"", "", ""}, {"A", "", "A"}, {"", "A", ""}, {"AB", "AXB", "ABY"}, {"ABC", "AC", "ABC"}} {
		o, a, b := of(c[0]), of(c[1]), of(c[2])
		o2, a2, b2 := emptied(o), emptied(a), emptied(b)
		p, _ := Diff(o, a)
		q := api.Patch{Old: emptiedHead(p.Old), New: emptiedHead(p.New), Edits: []api.Edit{}}
		for _, e := range p.Edits {
			q.Edits = append(q.Edits, api.Edit{Kind: e.Kind, Many: e.Many, Trees: emptiedTrees(e.Trees)})
		}
		if d, why := Diff(o2, a); why != api.OK || !samePatches(d, p) {
			t.Errorf("P1: Diff of empty lists: %v, %d", d, why)
		}
		if d, why := Diff(o, a2); why != api.OK || !samePatches(d, p) {
			t.Errorf("P1: Diff of empty lists: %v, %d", d, why)
		}
		if Check(q) != api.OK {
			t.Error("P1: Check of empty lists")
		}
		for _, x := range []api.Ensemble{o, o2} {
			isApplied(t, "nil and empty lists", x, q, a)
			isApplied(t, "nil and empty lists", x, p, a)
		}
		want, why, at := Merge(o, a, b)
		if got, no, place := Merge(o2, a, b2); no != why || place != at || !trees.Same(got, want) {
			t.Errorf("P1: Merge of empty lists: %v, %d, %d", got, no, place)
		}
	}
	// Lists that must not be empty are as wrong as nil ones.
	bare := bent(of(""), func(e *api.Ensemble) { e.Features, e.Base = nil, nil })
	for _, e := range []api.Ensemble{bare, emptied(bare)} {
		noDiff(t, "no features", e, of(""), api.ErrModel)
	}
	p := api.Patch{Old: headOf(of("")), New: emptiedHead(headOf(bare))}
	noApply(t, "an empty head", of(""), p, api.ErrModel)
	p.Old = p.New
	noApply(t, "an empty Old", of(""), p, api.ErrPatch)
}

// Calls at one time have nothing to do with one another; no goroutine is left behind: a bubble is back when each one within has ended, and panics if one never will.
func TestAtOneTime(t *testing.T) {
	r := source()
	stock := someStock(r)
	o := someOf(r, stock, 6)
	a, b := someChanged(r, o, stock), someChanged(r, o, stock)
	p, _ := Diff(o, b)
	want := answers(o, a, b, p).text
	texts := make([]string, 16)
	synctest.Test(t, func(*testing.T) {
		for i := range texts {
			go func() { texts[i] = answers(o, a, b, p).text }()
		}
	})
	for _, s := range texts {
		if s != want {
			t.Fatal("P3, P4: calls at one time answer otherwise")
		}
	}
}

// Whoever stops going through a script has what came till then.
func TestScriptStops(t *testing.T) {
	for many := range 5 {
		var l []string
		for s := range script(letters("ABC"), letters("AXC")) {
			if len(l) == many {
				break
			}
			l = append(l, fmt.Sprint(s.kind, s.old, s.anew))
		}
		if want := []string{"1 0 0", "2 1 1", "3 2 1", "1 2 2"}[:many]; !slices.Equal(l, want) {
			t.Error("a script's first steps:", l, want)
		}
	}
}

// Trees have one number just if they are one.
func TestNumbers(t *testing.T) {
	r := source()
	for range 300 {
		stock := someStock(r)
		l := numbered(stock, stock)
		for i, number := range l[0] {
			for j, other := range l[1] {
				if (number == other) != trees.Alike(stock[i], stock[j]) {
					t.Fatal("numbers of trees:", l, stock)
				}
			}
		}
	}
}

// Trees whose marks are the same are still held against each other.
func TestSameMarks(t *testing.T) {
	wide := bent(of(""), func(e *api.Ensemble) { e.Outputs, e.Base = api.MaxOutputs, make([]int64, api.MaxOutputs) })
	ahead := func(output int) uint64 { return mixed(mixed(0, uint64(output)), uint64(api.NodeLeaf)) } // of a leaf's value
	tried := 0
	for x := range api.MaxOutputs {
		for y := range x {
			a := api.Tree{Output: x, Nodes: []api.Node{leafOf(int64(ahead(x) ^ ahead(y)))}}
			b := api.Tree{Output: y, Nodes: []api.Node{leafOf(0)}}
			one, other := ensembleOf(headOf(wide), []api.Tree{a, b, a}), ensembleOf(headOf(wide), []api.Tree{b, a})
			if markOf(a) != markOf(b) {
				t.Fatal("these marks are not the same")
			}
			if !rules.Valid(one) {
				continue
			}
			tried++
			isDiff(t, "the same marks", one, other, "drop ?, keep 2")
		}
	}
	if tried == 0 {
		t.Error("no such trees")
	}
}

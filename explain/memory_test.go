package explain

import (
	"bytes"
	"cmp"
	"fmt"
	"math"
	"slices"
	"strings"
	"testing"
	"testing/synctest"
	"unsafe"

	"thicket/api"
	"thicket/rules"
	"thicket/trees"
)

// room is a list's memory, its spare room included.
type room []byte

func roomOf[T any](l []T) room {
	var one T
	return unsafe.Slice((*byte)(unsafe.Pointer(unsafe.SliceData(l))), cap(l)*int(unsafe.Sizeof(one)))
}

func (r room) from() uintptr { return uintptr(unsafe.Pointer(unsafe.SliceData(r))) }

func (r room) to() uintptr { return r.from() + uintptr(len(r)) }

func roomsOfTree(g api.Tree) []room {
	l := []room{roomOf(g.Nodes)}
	for _, n := range g.Nodes {
		l = append(l, roomOf(n.Cats))
	}
	return l
}

func roomsOfEnsemble(e api.Ensemble) []room {
	l := []room{roomOf(e.Features), roomOf(e.Base), roomOf(e.Trees)}
	for _, g := range e.Trees {
		l = append(l, roomsOfTree(g)...)
	}
	return l
}

// apart tells whether no two rooms have a byte in common.
func apart(l ...room) bool {
	l = slices.DeleteFunc(l, func(r room) bool { return len(r) == 0 })
	slices.SortFunc(l, func(a, b room) int { return cmp.Compare(a.from(), b.from()) })
	for i := 1; i < len(l); i++ {
		if l[i].from() < l[i-1].to() {
			return false
		}
	}
	return true
}

// bytesOf is what stands in rooms, byte by byte.
func bytesOf(l []room) []byte { return slices.Concat(l...) }

// fill writes over a list, its spare room included.
func fill[T any](l []T, v T) {
	for i := range l[:cap(l)] {
		l[:cap(l)][i] = v
	}
}

// spare is a list with room behind it in which something stands.
func spare[T any](l []T, behind T) []T {
	return append(append(make([]T, 0, len(l)+3), l...), behind, behind)[:len(l)]
}

func roomyTree(g api.Tree) api.Tree {
	nodes := slices.Clone(g.Nodes)
	for i, n := range nodes {
		nodes[i].Cats = spare(n.Cats, -7)
	}
	return api.Tree{Output: g.Output, Nodes: spare(nodes, api.Node{Kind: 77})}
}

// roomy is an ensemble in lists with room behind them, in which wrong things stand.
func roomy(e api.Ensemble) api.Ensemble {
	e = trees.Copy(e)
	for i, g := range e.Trees {
		e.Trees[i] = roomyTree(g)
	}
	e.Trees = spare(e.Trees, api.Tree{Output: -7})
	e.Base, e.Features = spare(e.Base, -7), spare(e.Features, "?")
	return e
}

func spoil(e api.Ensemble) {
	for _, g := range e.Trees {
		for _, n := range g.Nodes {
			fill(n.Cats, -9)
		}
		fill(g.Nodes, api.Node{Feature: -9})
	}
	fill(e.Trees, api.Tree{Output: -9})
	fill(e.Base, -9)
	fill(e.Features, "?")
}

func roomsOfRatios(l ...api.Ratio) []room {
	var rooms []room
	for _, r := range l {
		rooms = append(rooms, roomOf(r.Num), roomOf(r.Den))
	}
	return rooms
}

// answers are those of each call that takes these, as a text, and their lists.
func answers(e api.Ensemble, x []float64, back [][]float64, set []int) (string, []room) {
	text, rooms := "", []room{}
	players, why := Players(e)
	reasons, no := Reasons(e, x)
	text += fmt.Sprint(players, why, reasons, no)
	rooms = append(rooms, roomOf(players), roomOf(reasons))
	for output := range 3 {
		v, why := Value(e, output, x, back, set)
		shares, no := Shapley(e, output, x, back)
		first, steps, nor := Steps(e, output, x)
		text += fmt.Sprint(said(v), why, said(shares...), no, said(first), said(steps...), nor, ";")
		rooms = append(rooms, roomOf(shares), roomOf(steps))
		rooms = append(rooms, roomsOfRatios(slices.Concat([]api.Ratio{v, first}, shares, steps)...)...)
	}
	return text, rooms
}

func TestMemory(t *testing.T) {
	r := source()
	for i := range 300 {
		features := 1 + r.IntN(4)
		plain := someEnsemble(r, r.IntN(5), features, 2)
		x := someVector(r, features)
		back := someBack(r, x)
		set := []int{0, features - 1, 0}[:r.IntN(4)]
		switch i % 10 { // calls that are refused change nothing either
		case 0:
			plain.Outputs = 1
		case 1:
			back = append(back, nil)
		case 2:
			set = append(set, features)
		case 3:
			x = x[1:]
		}
		want, _ := answers(plain, x, back, set)
		e, v, l, o := roomy(plain), spare(x, nan), spare(slices.Clone(back), []float64{nan}), spare(set, -7)
		given := append(roomsOfEnsemble(e), roomOf(v), roomOf(l), roomOf(o))
		for i, b := range l {
			l[i] = spare(b, nan)
			given = append(given, roomOf(l[i]))
		}
		before := bytesOf(given)
		text, rooms := answers(e, v, l, o)
		again, others := answers(e, v, l, o)
		if text != want || again != want {
			t.Fatalf("P3: a capacity is seen, or an answer is another the second time: %s, not %s", text, want)
		}
		if !bytes.Equal(bytesOf(given), before) {
			t.Fatal("25.6: what is handed in was changed")
		}
		if !apart(slices.Concat(given, rooms, others)...) {
			t.Fatal("25.6: answers share memory")
		}
		kept := bytesOf(others)
		for _, r := range rooms {
			clear(r)
		}
		if text, _ := answers(e, v, l, o); text != want {
			t.Fatal("25.6: an answer is kept")
		}
		spoil(e)
		for _, b := range l {
			fill(b, 7)
		}
		fill(l, nil)
		fill(v, 7)
		fill(o, -9)
		if !bytes.Equal(bytesOf(others), kept) {
			t.Fatal("25.6: what is handed in is kept")
		}
	}
}

// A text is no piece of a name that was handed in.
func TestMemoryOfTexts(t *testing.T) {
	bytes := []byte("abc")
	e := ensemble(1, 1, stump(0, 1, 1, 2))
	e.Features[0] = unsafe.String(&bytes[0], len(bytes))
	l, why := Reasons(e, at(nan))
	want := strings.Clone(l[0])
	copy(bytes, "xyz")
	if why != api.OK || l[0] != want || l[0] != "abc is missing : output 0 +0.000001" {
		t.Error("25.6:", l, why)
	}
}

// nil and empty lists are alike.
func TestEmptyLists(t *testing.T) {
	e := example()
	for i := range e.Trees {
		for j := range e.Trees[i].Nodes {
			e.Trees[i].Nodes[j].Cats = []int{7}[:0]
		}
	}
	isPlayers(t, "empty lists", e, 0, 1)
	isShapley(t, "empty lists", e, 0, at(2, 1), all(at(0, 0)), "9 6")
	isSteps(t, "empty lists", e, 0, at(2, 1), "7", "6 2")
	isReasons(t, "empty lists", e, at(2, nan), "a > 0 : output 0 +0.000006", "b is missing : output 0 +0")
	isValue(t, "an empty set", e, 0, at(2, 1), all(at(0, 0)), []int{}, "0")
	none := ensemble(1, 1)
	none.Trees = []api.Tree{}
	isPlayers(t, "an empty list of trees", none)
	isReasons(t, "an empty list of trees", none, at(1))
	noReasons(t, "an empty vector", none, []float64{}, api.ErrVector)
	noSteps(t, "an empty vector", none, 0, []float64{}, api.ErrVector)
	noValue(t, "an empty vector of the background", none, 0, at(1), all([]float64{}), nil, api.ErrVector)
}

// Calls at one time have nothing to do with one another; no goroutine is left behind.
func TestAtOneTime(t *testing.T) {
	r := source()
	e := someEnsemble(r, 9, 4, 2)
	x := someVector(r, 4)
	back := someBack(r, x)
	want, _ := answers(e, x, back, []int{1, 2})
	texts := make([]string, 8)
	synctest.Test(t, func(*testing.T) { // is back when each goroutine has ended, and panics if one never will
		for i := range texts {
			go func() { texts[i], _ = answers(e, x, back, []int{1, 2}) }()
		}
	})
	for _, s := range texts {
		if s != want {
			t.Fatal("P4: calls at one time answer otherwise")
		}
	}
}

// Any ensembles, vectors, numbers: no call panics, each ends, and just the right ones are taken.
func TestAnything(t *testing.T) {
	r := source()
	odd := func() int {
		return []int{0, 0, 1, 1, 2, 3, -1, math.MinInt, math.MaxInt, r.Int()}[r.IntN(10)]
	}
	few := func() int {
		if r.IntN(4) > 0 {
			return r.IntN(4)
		}
		return odd()
	}
	taken := 0
	for range 30000 {
		e := ensemble(1, 1+r.IntN(2))
		for range r.IntN(3) {
			g := api.Tree{Output: r.IntN(2) * odd()}
			for range r.IntN(4) {
				n := leafOf([]int64{0, 1, math.MaxInt64, math.MinInt64, 1 << 61, r.Int64()}[r.IntN(6)])
				if r.IntN(3) == 0 {
					n = api.Node{Kind: api.NodeKind(r.IntN(5)), Feature: few(), Threshold: someNumber(r), Cats: []int{few(), few()}[:r.IntN(3)], Missing: api.Side(r.IntN(4)), Left: few(), Right: few()}
				}
				g.Nodes = append(g.Nodes, n)
			}
			e.Trees = append(e.Trees, g)
		}
		if r.IntN(9) == 0 {
			e.Outputs = odd()
		}
		length := func() int { return []int{1, 1, 1, 1, 0, 2}[r.IntN(6)] }
		x, output := someVector(r, length()), odd()
		back := slices.Repeat(all(someVector(r, length())), []int{0, 1, 2, 3, api.MaxBack, api.MaxBack + 1}[r.IntN(6)])
		set := []int{odd(), odd()}[:r.IntN(3)]
		isOff := func(feature int) bool { return feature < 0 || feature >= len(e.Features) }
		want := api.OK
		switch {
		case !rules.Valid(e):
			want = api.ErrModel
		case output < 0 || output >= e.Outputs:
			want = api.ErrRange
		case len(x) != 1:
			want = api.ErrVector
		}
		_, no := Players(e)
		_, nor := Reasons(e, x)
		if (no == api.OK) != rules.Valid(e) || (nor == api.ErrModel) == rules.Valid(e) || rules.Valid(e) && (nor == api.OK) != (len(x) == 1) {
			t.Fatal("25.1, 25.5:", no, nor, e)
		}
		if _, _, why := Steps(e, output, x); why != want {
			t.Fatal("25.4: the first that applies:", why, want, e)
		}
		switch {
		case want != api.OK:
		case len(back) == 0:
			want = api.ErrSize
		case len(back) > api.MaxBack:
			want = api.ErrMany
		case len(back[0]) != 1:
			want = api.ErrVector
		}
		if _, why := Shapley(e, output, x, back); why != want {
			t.Fatal("25.3: the first that applies:", why, want, e)
		}
		if want == api.OK && slices.ContainsFunc(set, isOff) {
			want = api.ErrRange
		}
		if _, why := Value(e, output, x, back, set); why != want {
			t.Fatal("25.2: the first that applies:", why, want, e)
		}
		if want == api.OK {
			taken++
		}
	}
	if taken < 300 {
		t.Error("few of these are taken:", taken)
	}
}

package bins

import (
	"bytes"
	"cmp"
	"fmt"
	"math"
	"slices"
	"testing"
	"testing/synctest"
	"unsafe"

	"thicket/api"
	"thicket/trees"
)

// room is a list's memory, its spare room included.
type room []byte

func roomOf[T any](l []T) room {
	var one T
	return unsafe.Slice((*byte)(unsafe.Pointer(unsafe.SliceData(l))), cap(l)*int(unsafe.Sizeof(one)))
}

func (r room) from() uintptr { return uintptr(unsafe.Pointer(unsafe.SliceData(r))) }

func (r room) to() uintptr { return r.from() + uintptr(len(r)) }

func roomsOfBins(b api.Bins) []room {
	l := []room{roomOf(b.Cuts), roomOf(b.Cats)}
	for _, cuts := range b.Cuts {
		l = append(l, roomOf(cuts))
	}
	for _, cats := range b.Cats {
		l = append(l, roomOf(cats))
	}
	return l
}

func roomsOfBinned(m api.Binned) []room {
	l := append(roomsOfBins(m.Bins), roomOf(m.Base), roomOf(m.Trees))
	for _, t := range m.Trees {
		l = append(l, roomOf(t.Nodes))
		for _, n := range t.Nodes {
			l = append(l, roomOf(n.Cats))
		}
	}
	return l
}

func roomsOfEnsemble(e api.Ensemble) []room {
	l := []room{roomOf(e.Features), roomOf(e.Base), roomOf(e.Trees)}
	for _, t := range e.Trees {
		l = append(l, roomOf(t.Nodes))
		for _, n := range t.Nodes {
			l = append(l, roomOf(n.Cats))
		}
	}
	return l
}

// apart tells whether no two rooms have a byte in common.
func apart(l ...room) bool {
	l = slices.DeleteFunc(l, func(r room) bool { return len(r) == 0 })
	slices.SortFunc(l, func(a, b room) int { return cmp.Compare(a.from(), b.from()) })
	for i := 1; i < len(l); i++ {
		if l[i].from() < l[i-1].to() {
			return false
		}
	}
	return true
}

// whole is what stands in rooms, byte by byte.
func whole(l []room) []byte { return slices.Concat(l...) }

// fill writes over a list, its spare room included.
func fill[T any](l []T, v T) {
	for i := range l[:cap(l)] {
		l[:cap(l)][i] = v
	}
}

// spare is a list with room behind it in which something stands.
func spare[T any](l []T, behind T) []T {
	return append(append(make([]T, 0, len(l)+3), l...), behind, behind)[:len(l)]
}

func spareAll[T any](l [][]T, behind T) [][]T {
	var out [][]T
	for _, one := range l {
		out = append(out, spare(one, behind))
	}
	return spare(out, []T{behind})
}

func spoilBins(b api.Bins) {
	for _, l := range b.Cuts {
		fill(l, -9)
	}
	for _, l := range b.Cats {
		fill(l, -9)
	}
	fill(b.Cuts, nil)
	fill(b.Cats, nil)
}

// spoil writes over all that is a binned ensemble's.
func spoil(m api.Binned) {
	spoilBins(m.Bins)
	for _, t := range m.Trees {
		for _, n := range t.Nodes {
			fill(n.Cats, -9)
		}
		fill(t.Nodes, api.BinNode{Rank: -9})
	}
	fill(m.Trees, api.BinTree{Output: -9})
	fill(m.Base, -9)
}

func spoilEnsemble(e api.Ensemble) {
	for _, t := range e.Trees {
		for _, n := range t.Nodes {
			fill(n.Cats, -9)
		}
		fill(t.Nodes, api.Node{Feature: -9})
	}
	fill(e.Trees, api.Tree{Output: -9})
	fill(e.Base, -9)
	fill(e.Features, "?")
}

// roomy are things in lists with room behind them, in which wrong things stand.
func roomyBins(b api.Bins) api.Bins {
	return api.Bins{Cuts: spareAll(b.Cuts, nan), Cats: spareAll(b.Cats, -7)}
}

func roomy(m api.Binned) api.Binned {
	out := api.Binned{Bins: roomyBins(m.Bins), Outputs: m.Outputs, Base: spare(m.Base, -7)}
	for _, t := range m.Trees {
		nodes := slices.Clone(t.Nodes)
		for i, n := range nodes {
			nodes[i].Cats = spare(n.Cats, -7)
		}
		out.Trees = append(out.Trees, api.BinTree{Output: t.Output, Nodes: spare(nodes, api.BinNode{Kind: 77})})
	}
	out.Trees = spare(out.Trees, api.BinTree{Output: -7})
	return out
}

func roomyEnsemble(e api.Ensemble) api.Ensemble {
	e = trees.Copy(e)
	for i, t := range e.Trees {
		for k, n := range t.Nodes {
			t.Nodes[k].Cats = spare(n.Cats, -7)
		}
		e.Trees[i].Nodes = spare(t.Nodes, api.Node{Kind: 77})
	}
	e.Trees = spare(e.Trees, api.Tree{Output: -7})
	e.Base, e.Features = spare(e.Base, -7), spare(e.Features, "?")
	return e
}

func TestMemoryOfCompile(t *testing.T) {
	r := source()
	for range 400 {
		plain := someEnsemble(r, r.IntN(5), 1+r.IntN(3), 1+r.IntN(2))
		want := compileByWords(plain)
		e := roomyEnsemble(plain)
		given := roomsOfEnsemble(e)
		before := whole(given)
		a, b := binned(t, e), binned(t, e)
		c, d := binsOf(t, e), binsOf(t, e)
		if !bytes.Equal(whole(given), before) {
			t.Fatal("P20.5: what is handed in was changed")
		}
		if !apart(slices.Concat(given, roomsOfBinned(a), roomsOfBinned(b), roomsOfBins(c), roomsOfBins(d))...) {
			t.Fatal("P20.5: answers share memory")
		}
		spoil(a)
		spoilBins(c)
		isBinned(t, "P20.5: an answer was written over", b, want)
		isBinned(t, "P20.5: asked again", binned(t, e), want)
		isOf(t, "P20.5: asked again", e, want.Bins)
		spoilEnsemble(e)
		isBinned(t, "P20.5: what is handed in is kept", b, want)
		if fmt.Sprint(d) != fmt.Sprint(want.Bins) {
			t.Fatal("P20.5: bins share memory")
		}
	}
}

func TestMemoryOfBack(t *testing.T) {
	r := source()
	for range 400 {
		plain := binned(t, someEnsemble(r, r.IntN(5), 1+r.IntN(3), 1+r.IntN(2)))
		want, _ := backByWords(plain)
		m := roomy(plain)
		x := spare(someVector(r, len(m.Bins.Cuts)), 5)
		l, _ := Codes(m.Bins, x)
		sums := scoreByWords(plain, l)
		l = spare(l, known(-7, -7))
		given := append(roomsOfBinned(m), roomOf(x), roomOf(l))
		before := whole(given)
		a, _ := Back(m)
		b, _ := Back(m)
		c, _ := Score(m, l)
		d, _ := Score(m, l)
		e, _ := Run(m, x)
		f, _ := Run(m, x)
		g, _ := Codes(m.Bins, x)
		h, _ := Codes(m.Bins, x)
		Right(m.Bins)
		Point(m.Bins, 0, l[0])
		Run(m, x[:0])
		Score(m, l[:0])
		if !bytes.Equal(whole(given), before) {
			t.Fatal("P20.5: what is handed in was changed")
		}
		if !apart(slices.Concat(given, roomsOfEnsemble(a), roomsOfEnsemble(b), []room{roomOf(c), roomOf(d), roomOf(e), roomOf(f), roomOf(g), roomOf(h)})...) {
			t.Fatal("P20.5: answers share memory")
		}
		spoilEnsemble(a)
		fill(c, -9)
		fill(e, -9)
		fill(g, known(-9, -9))
		if again, _ := Back(m); !trees.Same(again, want) || !trees.Same(b, want) {
			t.Fatal("P20.5: Back's answer is kept")
		}
		says(t, "P20.5: asked again", m, x, sums...)
		hasCodes(t, "P20.5: asked again", m.Bins, x, h...)
		if !slices.Equal(d, sums) || !slices.Equal(f, sums) || !slices.Equal(h, l) {
			t.Fatal("P20.5: an answer was written over")
		}
		spoil(m)
		fill(x, -9)
		fill(l, known(-9, -9))
		if !trees.Same(b, want) || !slices.Equal(d, sums) {
			t.Fatal("P20.5: what is handed in is kept")
		}
	}
}

// A refused call changes nothing either.
func TestMemoryOfRefused(t *testing.T) {
	for _, flaw := range flaws() {
		m := roomy(binned(t, pair()))
		flaw.do(&m)
		given := roomsOfBinned(m)
		before := whole(given)
		refused(t, flaw.what, m, flaw.why)
		if !bytes.Equal(whole(given), before) {
			t.Errorf("P2: %s: what is handed in was changed", flaw.what)
		}
	}
}

// A capacity is not seen, and nil and empty lists are alike.
func TestCapacity(t *testing.T) {
	b := binsOf(t, pair())
	if !Right(roomyBins(b)) {
		t.Error("P3: a capacity is seen")
	}
	hasCodes(t, "a capacity", roomyBins(b), []float64{4, 1.5, 7}[:2], known(0, 0), known(1, -1))
	noCodes(t, "a capacity", roomyBins(b), []float64{4, 1.5, 7}[:1], api.ErrVector)
	hasPoint(t, "a capacity", roomyBins(b), 1, known(2, -1), math.Nextafter(2, 3))
	noPoint(t, "a capacity", roomyBins(b), 1, known(3, -1), api.ErrBins)
	noPoint(t, "a capacity", roomyBins(b), 2, missing(), api.ErrRange)
	m := roomy(binned(t, pair()))
	comesBack(t, "a capacity", m, pair())
	m.Trees[0].Nodes[1].Cats = []int{7}[:0]
	m.Trees[0].Nodes[0].Cats = []int{}
	m.Bins.Cuts[0], m.Bins.Cats[1] = []float64{}, []int{}
	comesBack(t, "empty lists", m, pair())
	says(t, "empty lists", m, []float64{5, 1.5}, 113)
	e := pair()
	e.Trees[0].Nodes[1].Cats = []int{}
	e.Trees[1].Nodes[0].Cats = []int{7}[:0]
	isBinned(t, "empty lists", binned(t, e), binned(t, pair()))
}

// Calls at one time have nothing to do with one another; no goroutine is left behind.
func TestAtOneTime(t *testing.T) {
	r := source()
	e := someEnsemble(r, 20, 3, 2)
	var l [][]float64
	for range 30 {
		l = append(l, someVector(r, 3))
	}
	ask := func() string {
		m, _ := Compile(e)
		b, _ := Back(m)
		out := fmt.Sprint(m, b)
		for _, x := range l {
			s, _ := Run(m, x)
			c, _ := Codes(m.Bins, x)
			v, why := Point(m.Bins, 0, c[0])
			out += fmt.Sprint(s, c, v, why)
		}
		return out
	}
	want := ask()
	answers := make([]string, 8)
	synctest.Test(t, func(*testing.T) { // is back when each goroutine has ended, and panics if one never will
		for i := range answers {
			go func() { answers[i] = ask() }()
		}
	})
	for _, a := range answers {
		if a != want {
			t.Fatal("P4: calls at one time answer otherwise")
		}
	}
}

// Any bins, codes and trees: no call panics, each ends.
func TestAnything(t *testing.T) {
	r := source()
	odd := func() int {
		return []int{0, 0, 1, 1, 2, 3, -1, math.MinInt, math.MaxInt, r.Int()}[r.IntN(10)]
	}
	code := func() api.Code { return api.Code{Bin: odd(), Cat: odd(), Lost: r.IntN(2) == 0} }
	for range 20000 {
		var b api.Bins
		for range r.IntN(3) {
			b.Cuts = append(b.Cuts, []float64{0, someNumber(r)}[r.IntN(2):])
		}
		for range r.IntN(3) {
			b.Cats = append(b.Cats, []int{0, odd()}[r.IntN(2):])
		}
		if Right(b) != rightByWords(b) {
			t.Fatalf("P20.1: Right(%v)", b)
		}
		feature, c := odd(), code()
		switch v, why := Point(b, feature, c); {
		case !rightByWords(b):
			noPoint(t, "anything", b, feature, c, api.ErrBins)
		case feature < 0 || feature >= len(b.Cuts):
			noPoint(t, "anything", b, feature, c, api.ErrRange)
		default:
			if want, ok := pointByWords(b, feature, c); ok != (why == api.OK) || ok && v != want && !c.Lost {
				t.Fatalf("P20.2: Point(%v, %d, %v) = %v, %d", b, feature, c, v, why)
			}
		}
		m := api.Binned{Bins: b, Outputs: odd(), Base: make([]int64, r.IntN(3))}
		for range r.IntN(3) {
			g := api.BinTree{Output: odd()}
			for range r.IntN(4) {
				g.Nodes = append(g.Nodes, api.BinNode{Kind: api.NodeKind(r.IntN(5)), Value: int64(odd()), Feature: odd(), Rank: odd(), Cats: []int{odd()}[:r.IntN(2)], Missing: api.Side(r.IntN(4)), Left: odd(), Right: odd()})
			}
			m.Trees = append(m.Trees, g)
		}
		_, want := backByWords(m)
		if _, why := Back(m); why != want {
			t.Fatalf("P20.3: Back(%v): %d, not %d", m, why, want)
		}
		x := make([]float64, r.IntN(3))
		l := make([]api.Code, r.IntN(3))
		for i := range l {
			l[i] = code()
		}
		if _, why := Run(m, x); want != api.OK && why != want || want == api.OK && (why == api.OK) != (len(x) == len(b.Cuts)) {
			t.Fatalf("P20.4: Run(%v, %v): %d", m, x, why)
		}
		if _, why := Score(m, l); want != api.OK && why != want || want == api.OK && (why == api.ErrVector) != (len(l) != len(b.Cuts)) {
			t.Fatalf("P20.4: Score(%v, %v): %d", m, l, why)
		}
	}
}

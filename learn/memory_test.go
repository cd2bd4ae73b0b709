package learn

import (
	"bytes"
	"cmp"
	"fmt"
	"math"
	"runtime"
	"slices"
	"testing"
	"testing/synctest"
	"unsafe"

	"thicket/api"
	"thicket/limbs"
	"thicket/trees"
)

// room is a list's memory, its spare room included.
type room []byte

func roomOf[T any](l []T) room {
	var one T
	return unsafe.Slice((*byte)(unsafe.Pointer(unsafe.SliceData(l))), cap(l)*int(unsafe.Sizeof(one)))
}

func (r room) from() uintptr { return uintptr(unsafe.Pointer(unsafe.SliceData(r))) }

func (r room) to() uintptr { return r.from() + uintptr(len(r)) }

func roomsOfTree(g api.Tree) []room {
	l := []room{roomOf(g.Nodes)}
	for _, n := range g.Nodes {
		l = append(l, roomOf(n.Cats))
	}
	return l
}

func roomsOfEnsemble(e api.Ensemble) []room {
	l := []room{roomOf(e.Features), roomOf(e.Base), roomOf(e.Trees)}
	for _, g := range e.Trees {
		l = append(l, roomsOfTree(g)...)
	}
	return l
}

// areApart tells whether no two rooms have a byte in common.
func areApart(l ...room) bool {
	l = slices.DeleteFunc(l, func(r room) bool { return len(r) == 0 })
	slices.SortFunc(l, func(a, b room) int { return cmp.Compare(a.from(), b.from()) })
	for i := 1; i < len(l); i++ {
		if l[i].from() < l[i-1].to() {
			return false
		}
	}
	return true
}

// bytesOf is what stands in rooms, byte by byte.
func bytesOf(l []room) []byte { return slices.Concat(l...) }

// fill writes over a list, its spare room included.
func fill[T any](l []T, v T) {
	for i := range l[:cap(l)] {
		l[:cap(l)][i] = v
	}
}

// spare is a list with room behind it in which something stands.
func spare[T any](l []T, behind T) []T {
	return append(append(make([]T, 0, len(l)+3), l...), behind, behind)[:len(l)]
}

// roomy is an ensemble in lists with room behind them, in which wrong things stand.
func roomy(e api.Ensemble) api.Ensemble {
	e = trees.Copy(e)
	for i, g := range e.Trees {
		e.Trees[i].Nodes = spare(g.Nodes, api.Node{Kind: 77})
	}
	e.Trees = spare(e.Trees, api.Tree{Output: -7})
	e.Base, e.Features = spare(e.Base, -7), spare(e.Features, "?")
	return e
}

func spoil(e api.Ensemble) {
	for _, g := range e.Trees {
		fill(g.Nodes, api.Node{Feature: -9})
	}
	fill(e.Trees, api.Tree{Output: -9})
	fill(e.Base, -9)
	fill(e.Features, "?")
}

// answers are those of each call that takes these, as a text, and their lists.
func answers(e api.Ensemble, l [][]float64, numbers []int64, p api.Lesson) (string, []room) {
	text, rooms := "", []room{}
	for _, least := range []int{0, 1, 2} {
		c, ok, why := Best(l, numbers, least)
		text += fmt.Sprint(c.Feature, c.Threshold, c.Missing, c.Left, said(c.Gain), ok, why, ";")
		rooms = append(rooms, roomOf(c.Gain.Num), roomOf(c.Gain.Den))
	}
	g, why := Grow(l, numbers, p)
	fit, no := Fit(l, numbers, p)
	loss, nor := Loss(e, l, numbers)
	curve, never := Curve(l, numbers, p)
	text += fmt.Sprint(g, why, fit, no, loss, nor, curve, never)
	rooms = append(append(append(rooms, roomsOfTree(g)...), roomsOfEnsemble(fit)...), roomOf(loss), roomOf(curve))
	for _, n := range curve {
		rooms = append(rooms, roomOf(n))
	}
	return text, rooms
}

func TestMemory(t *testing.T) {
	r := source()
	for i := range 300 {
		features := 1 + r.IntN(3)
		plain := lossless(features)
		plain.Trees = []api.Tree{stump(0, 1, left, 5, 6), leaf(7)}
		l, numbers := someRows(r, 1+r.IntN(9), features, api.MaxTarget)
		p := someLesson(r)
		switch i % 10 { // calls that are refused change nothing either
		case 0:
			plain.Outputs = 2
		case 1:
			l[0] = nil
		case 2:
			numbers = numbers[1:]
		case 3:
			p.Den = 0
		}
		want, _ := answers(plain, l, numbers, p)
		e, v, n := roomy(plain), spare(slices.Clone(l), []float64{nan}), spare(numbers, math.MaxInt64)
		given := append(roomsOfEnsemble(e), roomOf(v), roomOf(n))
		for i, x := range v {
			v[i] = spare(x, nan)
			given = append(given, roomOf(v[i]))
		}
		before := bytesOf(given)
		text, rooms := answers(e, v, n, p)
		again, others := answers(e, v, n, p)
		if text != want || again != want {
			t.Fatalf("P3: a capacity is seen, or an answer is another the second time: %s, not %s", text, want)
		}
		if !bytes.Equal(bytesOf(given), before) {
			t.Fatal("P26.5: what is handed in was changed")
		}
		if !areApart(slices.Concat(given, rooms, others)...) {
			t.Fatal("P26.5: answers share memory")
		}
		kept := bytesOf(others)
		for _, r := range rooms {
			clear(r)
		}
		if text, _ := answers(e, v, n, p); text != want {
			t.Fatal("P26.5: an answer is kept")
		}
		spoil(e)
		for _, x := range v {
			fill(x, 7)
		}
		fill(v, nil)
		fill(n, -9)
		if !bytes.Equal(bytesOf(others), kept) {
			t.Fatal("P26.5: what is handed in is kept")
		}
	}
}

// nil and empty lists are alike.
func TestEmptyLists(t *testing.T) {
	empty := [][]float64{}
	refused(t, "empty lists", empty, []int64{}, api.ErrSize)
	refused(t, "an empty vector", [][]float64{{}}, whole(1), api.ErrVector)
	e := lossless(1)
	e.Trees = []api.Tree{}
	isLoss(t, "an empty list of trees", e, vectors(1), whole(2), "4")
	g := stump(0, 1, left, 2, 3)
	for i := range g.Nodes {
		g.Nodes[i].Cats = []int{7}[:0]
	}
	e.Trees = []api.Tree{g}
	isLoss(t, "empty lists of categories", e, vectors(1, 2), whole(2, 2), "1")
}

// No goroutine is left behind, of calls that answer and of such as are refused: a bubble is back when each one within has ended, and panics if one never will.
func TestNoneIsLeft(t *testing.T) {
	r := source()
	for range 50 {
		l, numbers := someRows(r, 30, 20, api.MaxTarget)
		p := someLesson(r)
		synctest.Test(t, func(*testing.T) { answers(lossless(20), l, numbers, p) })
		synctest.Test(t, func(*testing.T) { answers(lossless(1), l, numbers[1:], api.Lesson{}) })
	}
}

// Calls at one time have nothing to do with one another, and how goroutines run is not seen.
func TestAtOneTime(t *testing.T) {
	r := source()
	l, numbers := someRows(r, 60, 30, 9)
	p := api.Lesson{Trees: 5, Deep: 4, Least: 2, Num: 1, Den: 3}
	want, _ := answers(lossless(30), l, numbers, p)
	for _, processors := range []int{1, 2, runtime.NumCPU()} {
		before := runtime.GOMAXPROCS(processors)
		texts := make([]string, 16)
		synctest.Test(t, func(*testing.T) {
			for i := range texts {
				go func() { texts[i], _ = answers(lossless(30), l, numbers, p) }()
			}
		})
		runtime.GOMAXPROCS(before)
		for _, s := range texts {
			if s != want {
				t.Fatal("P3, P4: calls at one time answer otherwise")
			}
		}
	}
}

// errorByWords is the rows' error.
func errorByWords(l [][]float64, numbers []int64, most int64) api.Errno {
	switch {
	case len(l) < 1 || len(l) > api.MaxRows || len(numbers) != len(l):
		return api.ErrSize
	case len(l[0]) < 1 || len(l[0]) > api.MaxFeatures || slices.ContainsFunc(l, func(x []float64) bool { return len(x) != len(l[0]) }):
		return api.ErrVector
	case slices.ContainsFunc(numbers, func(v int64) bool { return v > most || v < -most }):
		return api.ErrRange
	}
	return api.OK
}

// Any rows, plans, ensembles: no call panics, each ends, and just the right ones are taken.
func TestAnything(t *testing.T) {
	r := source()
	odd := func() int {
		return []int{1, 1, 1, 1, 2, 3, 0, -1, math.MinInt, math.MaxInt, api.MaxDen, 12, 13, 1000, 1001}[r.IntN(15)]
	}
	number := func() int64 {
		return []int64{0, 1, -1, 5, -7, 1 << 40, 1<<40 + 1, -1 << 40, 1 << 46, 1<<46 + 1, -1<<46 - 1, math.MinInt64, math.MaxInt64}[r.IntN(4+r.IntN(10))]
	}
	count := map[api.Errno]int{}
	for range 20000 {
		l, features := make([][]float64, r.IntN(5)), r.IntN(4)
		for i := range l {
			l[i] = make([]float64, features)
			if r.IntN(20) == 0 {
				l[i] = make([]float64, r.IntN(4))
			}
			for f := range l[i] {
				l[i][f] = someNumber(r)
			}
		}
		numbers := make([]int64, max(0, len(l)+[]int{0, 0, 0, 0, 0, 1, -1}[r.IntN(7)]))
		for i := range numbers {
			numbers[i] = number()
		}
		p := api.Lesson{Trees: odd(), Deep: odd(), Least: odd(), Num: int64(odd()), Den: int64(odd())}
		if p.Trees == api.MaxRounds {
			p.Trees = 3
		}
		isPlan := p.Trees >= 0 && p.Trees <= 1000 && p.Deep >= 0 && p.Deep <= 12 && p.Least > 0 && p.Num > 0 && p.Num <= p.Den && p.Den <= 1<<20
		least := odd()
		e := lossless(features)
		e.Trees = []api.Tree{stump(r.IntN(4), someNumber(r), left, number(), number()), {Output: r.IntN(2), Nodes: []api.Node{{Kind: api.NodeKind(r.IntN(5)), Left: r.IntN(2)}}[:r.IntN(2)]}}[r.IntN(3):]

		rest, target := errorByWords(l, numbers, api.MaxRest), errorByWords(l, numbers, api.MaxTarget)
		best := rest
		if rest == api.OK && least < 1 {
			best = api.ErrRange
		}
		grow, fit, loss := rest, target, target
		if rest == api.OK && !isPlan {
			grow = api.ErrPlan
		}
		if target == api.OK && !isPlan {
			fit = api.ErrPlan
		}
		if target == api.OK {
			_, loss = trees.Score(e, l[0])
		}
		_, _, a := Best(l, numbers, least)
		_, b := Grow(l, numbers, p)
		_, c := Fit(l, numbers, p)
		losses, d := Loss(e, l, numbers)
		curve, f := Curve(l, numbers, p)
		if a != best || b != grow || c != fit || d != loss || f != fit {
			t.Fatal("the first that applies:", a, b, c, d, f, "not", best, grow, fit, loss, l, numbers, p)
		}
		if d == api.OK && limbs.Print(losses) != lossByWords(e, l, numbers) || f == api.OK && len(curve) != p.Trees+1 {
			t.Fatal("P26.4:", losses, curve)
		}
		count[c]++
		count[d+1000]++
	}
	for _, why := range []api.Errno{api.OK, api.ErrSize, api.ErrVector, api.ErrRange, api.ErrPlan, 1000, 1000 + api.ErrVector, 1000 + api.ErrShape, 1000 + api.ErrSplit} {
		if count[why] < 20 {
			t.Error("few of these:", why, count[why])
		}
	}
}

package code

import (
	"bytes"
	"cmp"
	"fmt"
	"math"
	"slices"
	"strings"
	"testing"
	"testing/synctest"
	"unsafe"

	"thicket/api"
)

// room is a list's memory, its spare room included.
type room []byte

func roomOf[T any](l []T) room {
	var one T
	return unsafe.Slice((*byte)(unsafe.Pointer(unsafe.SliceData(l))), cap(l)*int(unsafe.Sizeof(one)))
}

func (r room) from() uintptr { return uintptr(unsafe.Pointer(unsafe.SliceData(r))) }

func (r room) to() uintptr { return r.from() + uintptr(len(r)) }

func roomsOfProgram(p api.Program) []room {
	l := []room{roomOf(p.Ops)}
	for _, o := range p.Ops {
		l = append(l, roomOf(o.Cats))
	}
	return l
}

func roomsOfEnsemble(e api.Ensemble) []room {
	l := []room{roomOf(e.Features), roomOf(e.Base), roomOf(e.Trees)}
	for _, t := range e.Trees {
		l = append(l, roomOf(t.Nodes))
		for _, n := range t.Nodes {
			l = append(l, roomOf(n.Cats))
		}
	}
	return l
}

// apart tells whether no two rooms have a byte in common.
func apart(l ...room) bool {
	l = slices.DeleteFunc(l, func(r room) bool { return len(r) == 0 })
	slices.SortFunc(l, func(a, b room) int { return cmp.Compare(a.from(), b.from()) })
	for i := 1; i < len(l); i++ {
		if l[i].from() < l[i-1].to() {
			return false
		}
	}
	return true
}

// whole is what stands in rooms, byte by byte.
func whole(l []room) []byte { return slices.Concat(l...) }

// fill writes over a list, its spare room included.
func fill[T any](l []T, v T) {
	for i := range l[:cap(l)] {
		l[:cap(l)][i] = v
	}
}

// spare is a list with room behind it in which something stands.
func spare[T any](l []T, behind T) []T {
	return append(append(make([]T, 0, len(l)+3), l...), behind, behind)[:len(l)]
}

// spoil writes over all that is a program's.
func spoil(p api.Program) {
	for _, o := range p.Ops {
		fill(o.Cats, -9)
	}
	fill(p.Ops, api.Op{Kind: 9, Feature: -9, Cats: []int{-9}})
}

// roomy is a program in lists with room behind them, in which wrong things stand.
func roomy(p api.Program) api.Program {
	for i, o := range p.Ops {
		p.Ops[i].Cats = spare(o.Cats, -7)
	}
	p.Ops = spare(p.Ops, api.Op{Kind: 77})
	return p
}

func roomyEnsemble(e api.Ensemble) api.Ensemble {
	for i, t := range e.Trees {
		for k, n := range t.Nodes {
			t.Nodes[k].Cats = spare(n.Cats, -7)
		}
		e.Trees[i].Nodes = spare(t.Nodes, api.Node{Kind: 77})
	}
	e.Trees = spare(e.Trees, api.Tree{Output: -7})
	e.Base, e.Features = spare(e.Base, -7), spare(e.Features, "x")
	return e
}

// copyOf is a program in memory of its own.
func copyOf(p api.Program) api.Program {
	p.Ops = slices.Clone(p.Ops)
	for i, o := range p.Ops {
		p.Ops[i].Cats = slices.Clone(o.Cats)
	}
	return p
}

func TestMemoryOfCompile(t *testing.T) {
	r := source()
	for range 300 {
		e := someEnsemble(r, r.IntN(5), 2, 2)
		plain, _ := Compile(e)
		e = roomyEnsemble(e)
		given := roomsOfEnsemble(e)
		before := whole(given)
		a, _ := Compile(e)
		b, why := Compile(e)
		isCode(t, "P3: a capacity is seen", b, why, plain)
		if !bytes.Equal(whole(given), before) {
			t.Fatal("19.7: Compile changed what is handed in")
		}
		if !apart(slices.Concat(given, roomsOfProgram(a), roomsOfProgram(b), roomsOfProgram(plain))...) {
			t.Fatal("19.7: answers share memory")
		}
		spoil(a)
		again, why := Compile(e)
		isCode(t, "19.7: an answer is kept", again, why, plain)
		for _, g := range e.Trees {
			for _, n := range g.Nodes {
				fill(n.Cats, -9)
			}
			fill(g.Nodes, api.Node{})
		}
		fill(e.Trees, api.Tree{})
		fill(e.Base, -9)
		isCode(t, "19.7: what is handed in is kept", b, api.OK, plain)
	}
}

func TestMemory(t *testing.T) {
	r := source()
	for range 1000 {
		plain := someProgram(r, 1+r.IntN(20))
		p := roomy(copyOf(plain))
		x := spare(someVectors(r, 1, p.Features)[0], 5)
		given := append(roomsOfProgram(p), roomOf(x))
		before := whole(given)
		a, _ := Tidy(p)
		b, _ := Tidy(p)
		c, n, _ := Run(p, x)
		d, _, _ := Run(p, x)
		e, _ := Trace(p, x)
		f, _ := Trace(p, x)
		s, _ := Print(p)
		Check(p)
		Same(p, a)
		Run(p, x[:0:0])
		if !bytes.Equal(whole(given), before) {
			t.Fatal("19.7: what is handed in was changed")
		}
		g, _, _ := Read(s)
		h, _, _ := Read(s)
		if !apart(slices.Concat(given, roomsOfProgram(a), roomsOfProgram(b), roomsOfProgram(g), roomsOfProgram(h), []room{roomOf(c), roomOf(d), roomOf(e), roomOf(f)})...) {
			t.Fatal("19.7: answers share memory")
		}
		// Of answers that are written over nothing is seen in others, nor in those that are asked for again.
		spoil(a)
		spoil(g)
		fill(c, -9)
		fill(e, -9)
		want := tidyByWords(plain)
		sums, trace := runByWords(plain, x)
		isCode(t, "19.7: Tidy", b, api.OK, want)
		again, why := Tidy(p)
		isCode(t, "19.7: Tidy, asked again", again, why, want)
		isCode(t, "19.7: Read", h, api.OK, plain)
		g, why, _ = Read(s)
		isCode(t, "19.7: Read, asked again", g, why, plain)
		does(t, "asked again", p, x, sums, trace)
		if !slices.Equal(d, sums) || !slices.Equal(f, trace) || n != len(trace) {
			t.Fatal("19.7: an answer was written over")
		}
		spoil(p)
		fill(x, -9)
		isCode(t, "19.7: what is handed in is kept", b, api.OK, want)
		if t.Failed() {
			return
		}
	}
}

// A text that was read may go: nothing of it is kept.
func TestMemoryOfRead(t *testing.T) {
	b := []byte(strings.Repeat("# x\n", 3) + "code 1 1\nin 0 of 1 3 missing right else 1\nend\n")
	p, why, _ := Read(unsafe.String(&b[0], len(b)))
	fill(b, 'x')
	isCode(t, "19.7: Read keeps its text", p, why, program(1, 1, in(0, right, 1, 1, 3), end()))
	s, _ := Print(p)
	before := strings.Clone(s)
	spoil(p)
	if s != before {
		t.Error("19.7: Print keeps a program")
	}
}

// A capacity is not seen, and nil and empty lists are alike.
func TestCapacity(t *testing.T) {
	p := allKinds()
	p.Ops = append(p.Ops, plus(9, 9))[:len(p.Ops)]
	taken(t, "P3: a capacity", p)
	for i := range p.Ops {
		if p.Ops[i].Kind != api.OpIn {
			p.Ops[i].Cats = []int{1, 2, 3}[:0]
		}
	}
	taken(t, "P1: empty lists", p)
	if !Same(p, allKinds()) {
		t.Error("P1: empty lists are not alike")
	}
	x := []float64{7, 1, 2, 3}[:3]
	does(t, "a capacity", p, x, []int64{0, 0}, []int{0, 3, 4})
	if _, _, why := Run(p, x[:2]); why != api.ErrVector {
		t.Error("P3: a capacity is seen:", why)
	}
	e := ensemble(1, treeOf(numberOf(0, 1, left, 1, 2), leafOf(1), leafOf(2)))
	e.Trees[0].Nodes[0].Cats = []int{}
	e.Trees[0].Nodes[1].Cats = []int{4}[:0]
	compiled(t, "P1: empty lists", e)
}

// Calls at one time have nothing to do with one another; no goroutine is left behind.
func TestAtOneTime(t *testing.T) {
	r := source()
	e := someEnsemble(r, 20, 3, 2)
	l := someVectors(r, 30, 3)
	ask := func() string {
		p, _ := Compile(e)
		q, _ := Tidy(p)
		s, _ := Print(q)
		b, _, _ := Read(s)
		out := fmt.Sprint(p, q, s, b, Same(b, q))
		for _, x := range l {
			sums, n, _ := Run(p, x)
			trace, _ := Trace(q, x)
			out += fmt.Sprint(sums, n, trace)
		}
		return out
	}
	want := ask()
	answers := make([]string, 8)
	synctest.Test(t, func(*testing.T) { // is back when each goroutine has ended, and panics if one never will
		for i := range answers {
			go func() { answers[i] = ask() }()
		}
	})
	for _, a := range answers {
		if a != want {
			t.Fatal("P4: calls at one time answer otherwise")
		}
	}
}

// Any program and any vector: no call panics, each ends.
func TestAnything(t *testing.T) {
	r := source()
	odd := func() int {
		return []int{0, 1, 2, 3, -1, math.MinInt, math.MaxInt, api.MaxFeatures, api.MaxOutputs, r.Int()}[r.IntN(10)]
	}
	for range 20000 {
		p := program(odd(), odd())
		for range r.IntN(6) {
			o := api.Op{Kind: api.OpKind(r.IntN(8)), Feature: odd(), Threshold: someNumber(r), Missing: api.Side(r.IntN(4)), Output: odd(), Value: someValue(r), To: odd()}
			for range r.IntN(3) {
				o.Cats = append(o.Cats, odd())
			}
			p.Ops = append(p.Ops, o)
		}
		x := make([]float64, r.IntN(4))
		want, at := api.OK, 0
		if i := checkByWords(p); p.Features < 0 || p.Features > api.MaxFeatures || p.Outputs < 1 || p.Outputs > api.MaxOutputs {
			want = api.ErrSize
		} else if i >= 0 {
			want, at = api.ErrCode, i
		} else if len(p.Ops) == 0 {
			want = api.ErrCode
		}
		if why, i := Check(p); why != want || i != at {
			t.Fatalf("19.1: Check(%v) = %d at %d, not %d at %d", p, why, i, want, at)
		}
		if want == api.OK && len(x) != p.Features {
			want = api.ErrVector
		}
		if _, _, why := Run(p, x); why != want {
			t.Fatalf("19.3: Run(%v, %v): %d, not %d", p, x, why, want)
		}
		if _, why := Trace(p, x); why != want {
			t.Fatalf("19.3: Trace(%v, %v): %d, not %d", p, x, why, want)
		}
		Tidy(p)
		Print(p)
		if !Same(p, p) {
			t.Fatalf("19.7: %v is not the same as itself", p)
		}
	}
	for range 5000 {
		e := api.Ensemble{Outputs: odd(), Base: make([]int64, r.IntN(3)), Features: make([]string, r.IntN(3))}
		for range r.IntN(3) {
			g := api.Tree{Output: odd()}
			for range r.IntN(4) {
				g.Nodes = append(g.Nodes, api.Node{Kind: api.NodeKind(r.IntN(5)), Value: int64(odd()), Feature: odd(), Threshold: someNumber(r), Cats: []int{odd()}[:r.IntN(2)], Missing: api.Side(r.IntN(4)), Left: odd(), Right: odd()})
			}
			e.Trees = append(e.Trees, g)
		}
		if p, why := Compile(e); why != api.OK {
			noCode(t, "P2", p, why, why)
		} else if why, at := Check(p); why != api.OK {
			t.Fatalf("19.2: Compile(%v) = %v: %d at %d", e, p, why, at)
		}
	}
}

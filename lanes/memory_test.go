package lanes

import (
	"bytes"
	"cmp"
	"fmt"
	"math"
	"reflect"
	"slices"
	"testing"
	"testing/synctest"
	"unsafe"

	"thicket/api"
	"thicket/blocks"
)

// room is a list's memory, its spare room included.
type room []byte

func roomOf[T any](l []T) room {
	var one T
	return unsafe.Slice((*byte)(unsafe.Pointer(unsafe.SliceData(l))), cap(l)*int(unsafe.Sizeof(one)))
}

func (r room) from() uintptr { return uintptr(unsafe.Pointer(unsafe.SliceData(r))) }

func (r room) to() uintptr { return r.from() + uintptr(len(r)) }

func roomsOf[T any](l [][]T) []room {
	out := []room{roomOf(l)}
	for _, one := range l {
		out = append(out, roomOf(one))
	}
	return out
}

func roomsOfForm(f api.Form) []room {
	l := []room{roomOf(f.Base), roomOf(f.Blocks)}
	for _, b := range f.Blocks {
		l = append(l, roomsOfBlock(b)...)
	}
	return l
}

func roomsOfBlock(b api.Block) []room {
	l := append(roomsOf(b.Values), roomOf(b.Leaves), roomOf(b.Outputs), roomOf(b.Lists))
	for _, one := range b.Lists {
		for _, cuts := range [][]api.Cut{one.Numbers, one.Cats, one.Lost} {
			l = append(l, roomOf(cuts))
			for _, c := range cuts {
				l = append(l, roomOf(c.Cats))
			}
		}
	}
	return l
}

func roomsOfScorer(s *Scorer) []room {
	l := []room{roomOf(s.base), roomOf(s.parts)}
	for _, p := range s.parts {
		l = append(append(l, roomOf(p.full), roomOf(p.ends)), roomsOfBlock(p.block)...)
	}
	return l
}

// apart tells whether no two rooms have a byte in common.
func apart(l ...room) bool {
	l = slices.DeleteFunc(l, func(r room) bool { return len(r) == 0 })
	slices.SortFunc(l, func(a, b room) int { return cmp.Compare(a.from(), b.from()) })
	for i := 1; i < len(l); i++ {
		if l[i].from() < l[i-1].to() {
			return false
		}
	}
	return true
}

// whole is what stands in rooms, byte by byte.
func whole(l []room) []byte { return slices.Concat(l...) }

// fill writes over a list, its spare room included.
func fill[T any](l []T, v T) {
	for i := range l[:cap(l)] {
		l[:cap(l)][i] = v
	}
}

func fillAll[T any](l [][]T, v T) {
	for _, one := range l {
		fill(one, v)
	}
	fill(l, nil)
}

// spare is a list with room behind it in which something stands.
func spare[T any](l []T, behind T) []T {
	return append(append(make([]T, 0, len(l)+3), l...), behind, behind)[:len(l)]
}

func spareAll[T any](l [][]T, behind T) [][]T {
	var out [][]T
	for _, one := range l {
		out = append(out, spare(one, behind))
	}
	return spare(out, []T{behind})
}

// spoil writes over all that is a form's.
func spoil(f api.Form) {
	for _, b := range f.Blocks {
		for _, l := range b.Lists {
			for _, cuts := range [][]api.Cut{l.Numbers, l.Cats, l.Lost} {
				for _, c := range cuts {
					fill(c.Cats, -9)
				}
				fill(cuts, api.Cut{Threshold: nan, Tree: -9, From: -9, To: math.MaxInt})
			}
		}
		fillAll(b.Values, -9)
		fill(b.Leaves, -9)
		fill(b.Outputs, -9)
		fill(b.Lists, api.List{Feature: -9})
	}
	fill(f.Blocks, api.Block{First: -9})
	fill(f.Base, -9)
}

func TestMemoryOfPack(t *testing.T) {
	for _, many := range []int{1, 8, 17} {
		l := spareAll(some(many, 3), 5)
		given := roomsOf(l)
		before := whole(given)
		g, _ := Pack(l, 3)
		h, _ := Pack(l, 3)
		if !bytes.Equal(whole(given), before) {
			t.Fatal("P18.5: Pack changed what is handed in")
		}
		packed := spareAll(h, api.Lane{7})
		ofPacked := roomsOf(packed)
		before = whole(ofPacked)
		a, _ := Unpack(packed, many, 3)
		b, _ := Unpack(packed, many, 3)
		if !bytes.Equal(whole(ofPacked), before) {
			t.Fatal("P18.5: Unpack changed what is handed in")
		}
		if !apart(slices.Concat(given, roomsOf(g), roomsOf(h), ofPacked, roomsOf(a), roomsOf(b))...) {
			t.Fatal("P18.5: answers share memory")
		}
		fillAll(g, api.Lane{-9})
		fillAll(a, -9)
		again, _ := Pack(l, 3)
		back, _ := Unpack(packed, many, 3)
		if !reflect.DeepEqual(again, h) || !equals(back, b) || !equals(b, l) {
			t.Fatal("P18.5: an answer is kept")
		}
		fillAll(l, -9)
		if !reflect.DeepEqual(again, h) {
			t.Fatal("P18.5: what is handed in is kept")
		}
	}
	cats := spare([]int{1, 5, 3}, 2)
	before := slices.Clone(cats[:cap(cats)])
	Outside(api.Lane{1, 2, 3}, cats)
	if !slices.Equal(cats[:cap(cats)], before) {
		t.Error("P18.5: Outside changed what is handed in")
	}
	x := api.Lane{1, nan, 3}
	Above(x, 2)
	Lost(x)
	if x[0] != 1 || x[2] != 3 {
		t.Error("P18.5: a lane was changed")
	}
}

func TestMemory(t *testing.T) {
	r := source()
	for range 200 {
		e := someEnsemble(r, r.IntN(6), 3)
		f := formOf(t, e, 1+r.IntN(4))
		f.Base = spare(f.Base, 77)
		rooms := roomsOfForm(f)
		before := whole(rooms)
		s, _ := New(f)
		other, _ := New(f)
		l := spareAll(someVectors(r, 1+r.IntN(20), 3), 5)
		given := roomsOf(l)
		asked := whole(given)
		a, _, _ := s.Score(l)
		b, _, _ := s.Score(l)
		c, _, _ := s.Exits(l)
		d, _, _ := s.Exits(l)
		w, _, _ := s.Work(l)
		s.Score([][]float64{l[0], l[0][:1]})
		if !bytes.Equal(whole(rooms), before) || !bytes.Equal(whole(given), asked) {
			t.Fatal("P18.5: what is handed in was changed")
		}
		if !apart(slices.Concat(rooms, given, roomsOfScorer(s), roomsOfScorer(other), roomsOf(a), roomsOf(b), roomsOf(c), roomsOf(d))...) {
			t.Fatal("P18.5: answers share memory")
		}
		// Neither a change of the form, nor one of vectors or answers, changes what is answered.
		var copies [][]float64
		for _, x := range l {
			copies = append(copies, slices.Clone(x))
		}
		fillAll(a, -9)
		fillAll(c, -9)
		fillAll(l, 0.25)
		spoil(f)
		says(t, "P18.5: asked again", s, copies, b, d)
		works(t, "P18.5: asked again", s, copies, w)
		says(t, "P18.5: another one asked", other, copies, b, d)
		if t.Failed() {
			return
		}
	}
}

// A call that is refused changes neither what is handed in nor what is answered later.
func TestRefused(t *testing.T) {
	f := formOf(t, pair(), 2)
	f.Blocks[0].Lists[1].Numbers[0].Threshold = 7
	rooms := roomsOfForm(f)
	before := whole(rooms)
	if s, why := New(f); s != nil || why != api.ErrForm {
		t.Error("P18.3: thresholds that fall:", s, why)
	}
	if !bytes.Equal(whole(rooms), before) {
		t.Error("P18.5: what is handed in was changed")
	}
	s := scorer(t, pair(), 2)
	for range 3 {
		refused(t, "P18.4: too short", s, [][]float64{{nan, nan}, {nan}}, api.ErrVector, 1)
		says(t, "P18.5: behind a refused call", s, [][]float64{{4, 1}}, [][]int64{{111}}, [][]int{{0, 0}})
		works(t, "P18.5: behind a refused call", s, [][]float64{{4, 1}}, 2)
	}
}

// A capacity is not seen, neither of a form's lists nor of vectors.
func TestCapacity(t *testing.T) {
	r := source()
	for range 100 {
		e := someEnsemble(r, 1+r.IntN(5), 3)
		f := formOf(t, e, 2)
		s, _ := New(f)
		for i := range f.Blocks {
			b := &f.Blocks[i]
			for k := range b.Lists {
				l := &b.Lists[k]
				behind := api.Cut{Threshold: -endless, To: 1}
				l.Numbers, l.Cats, l.Lost = spare(l.Numbers, behind), spare(l.Cats, behind), spare(l.Lost, behind)
			}
			b.Leaves, b.Values, b.Outputs, b.Lists = spare(b.Leaves, 1), spareAll(b.Values, 1), spare(b.Outputs, 0), spare(b.Lists, api.List{})
		}
		f.Blocks = spare(f.Blocks, api.Block{First: 1})
		roomy, why := New(f)
		if why != api.OK {
			t.Fatal("P3: a capacity is seen:", why)
		}
		l := someVectors(r, 11, 3)
		a, _, _ := s.Score(l)
		b, _, _ := s.Exits(l)
		n, _, _ := s.Work(l)
		says(t, "P3: a capacity is seen", roomy, spareAll(l, 3), a, b)
		works(t, "P3: a capacity is seen", roomy, spareAll(l, 3), n)
		refused(t, "P3: a capacity is seen", roomy, [][]float64{spare(l[0], 3), spare(l[1][:2], 3)}, api.ErrVector, 1)
	}
}

// In whatever order is asked, and whatever is asked between, each answer is that of a new scorer.
func TestAskedBefore(t *testing.T) {
	r := source()
	for range 60 {
		e := someEnsemble(r, 1+r.IntN(8), 3)
		f := formOf(t, e, 1+r.IntN(4))
		s, _ := New(f)
		for range 20 {
			l := someVectors(r, r.IntN(20), 3)
			anew, _ := New(f)
			a, _, _ := anew.Score(l)
			b, _, _ := anew.Exits(l)
			n, _, _ := anew.Work(l)
			switch r.IntN(3) {
			case 0:
				says(t, "P18.5: asked before", s, l, a, b)
			case 1:
				works(t, "P18.5: asked before", s, l, n)
			case 2:
				refused(t, "P18.5: asked before", s, append(l, []float64{1}), api.ErrVector, len(l))
			}
		}
	}
}

// Two scorers, even of one form, have nothing to do with one another; no goroutine is left behind.
func TestScorersAtOneTime(t *testing.T) {
	r := source()
	e := someEnsemble(r, 20, 3)
	f, _ := blocks.Compile(e, 6)
	l := someVectors(r, 30, 3)
	ask := func() string {
		s, _ := New(f)
		a, _, _ := s.Score(l)
		b, _, _ := s.Exits(l)
		n, _, _ := s.Work(l)
		g, _ := Pack(l, 3)
		back, _ := Unpack(g, 30, 3)
		return fmt.Sprint(a, b, n, g, back)
	}
	want := ask()
	answers := make([]string, 8)
	synctest.Test(t, func(*testing.T) { // is back when each goroutine has ended, and panics if one never will
		for i := range answers {
			go func() { answers[i] = ask() }()
		}
	})
	for _, a := range answers {
		if a != want {
			t.Fatal("P4: scorers at one time answer otherwise")
		}
	}
}

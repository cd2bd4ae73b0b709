package quick

import (
	"bytes"
	"cmp"
	"math"
	"reflect"
	"slices"
	"testing"
	"testing/synctest"
	"unsafe"

	"thicket/api"
	"thicket/blocks"
)

// room is a list's memory, its spare room included.
type room []byte

func roomOf[T any](l []T) room {
	var one T
	return unsafe.Slice((*byte)(unsafe.Pointer(unsafe.SliceData(l))), cap(l)*int(unsafe.Sizeof(one)))
}

func (r room) from() uintptr { return uintptr(unsafe.Pointer(unsafe.SliceData(r))) }

func (r room) to() uintptr { return r.from() + uintptr(len(r)) }

func roomsOfForm(f api.Form) []room {
	l := []room{roomOf(f.Base), roomOf(f.Blocks)}
	for _, b := range f.Blocks {
		l = append(l, roomsOfBlock(b)...)
	}
	return l
}

func roomsOfBlock(b api.Block) []room {
	l := []room{roomOf(b.Leaves), roomOf(b.Values), roomOf(b.Outputs), roomOf(b.Lists)}
	for _, v := range b.Values {
		l = append(l, roomOf(v))
	}
	for _, one := range b.Lists {
		for _, cuts := range [][]api.Cut{one.Numbers, one.Cats, one.Lost} {
			l = append(l, roomOf(cuts))
			for _, c := range cuts {
				l = append(l, roomOf(c.Cats))
			}
		}
	}
	return l
}

func roomsOfScorer(s *Scorer) []room {
	l := []room{roomOf(s.base), roomOf(s.parts), roomOf(s.scratch)}
	for _, p := range s.parts {
		l = append(append(l, roomOf(p.full), roomOf(p.ends)), roomsOfBlock(p.block)...)
	}
	return l
}

func roomsOf[T any](l [][]T) []room {
	out := []room{roomOf(l)}
	for _, one := range l {
		out = append(out, roomOf(one))
	}
	return out
}

// apart tells whether no two rooms have a byte in common.
func apart(l ...room) bool {
	l = slices.DeleteFunc(l, func(r room) bool { return len(r) == 0 })
	slices.SortFunc(l, func(a, b room) int { return cmp.Compare(a.from(), b.from()) })
	for i := 1; i < len(l); i++ {
		if l[i].from() < l[i-1].to() {
			return false
		}
	}
	return true
}

// whole is what stands in rooms, byte by byte.
func whole(l []room) []byte { return slices.Concat(l...) }

// fill writes over a list, its spare room included.
func fill[T any](l []T, v T) {
	for i := range l[:cap(l)] {
		l[:cap(l)][i] = v
	}
}

// spare is a list with room behind it in which something stands.
func spare[T any](l []T, behind T) []T {
	return append(append(make([]T, 0, len(l)+3), l...), behind, behind)[:len(l)]
}

// spoil writes over all that is a form's.
func spoil(f api.Form) {
	for _, b := range f.Blocks {
		for _, l := range b.Lists {
			for _, cuts := range [][]api.Cut{l.Numbers, l.Cats, l.Lost} {
				for _, c := range cuts {
					fill(c.Cats, -9)
				}
				fill(cuts, api.Cut{Threshold: nan, Tree: -9, From: -9, To: math.MaxInt})
			}
		}
		for _, v := range b.Values {
			fill(v, -9)
		}
		fill(b.Leaves, -9)
		fill(b.Outputs, -9)
		fill(b.Lists, api.List{Feature: -9})
	}
	fill(f.Blocks, api.Block{First: -9})
	fill(f.Base, -9)
}

func TestMemory(t *testing.T) {
	r := source()
	for range 200 {
		e := someEnsemble(r, r.IntN(6), 3)
		f := formOf(t, e, 1+r.IntN(4))
		f.Base = spare(f.Base, 77)
		rooms := roomsOfForm(f)
		before := whole(rooms)
		s, _ := New(f)
		other, _ := New(f)
		l := someVectors(r, 4, 3)
		for i := range l {
			l[i] = spare(l[i], 5)
		}
		l = spare(l, nil)
		ofVectors := roomsOf(l)
		asked := whole(ofVectors)
		all, _, _ := s.All(l)
		again, _, _ := s.All(l)
		a, _ := s.Score(l[0])
		b, _ := s.Score(l[0])
		c, _ := s.Exits(l[0])
		d, _ := s.Exits(l[0])
		w, _ := s.Work(l[0])
		s.Score(l[1][:1])
		if !bytes.Equal(whole(rooms), before) || !bytes.Equal(whole(ofVectors), asked) {
			t.Fatal("P16.4: what is handed in was changed")
		}
		if !apart(slices.Concat(rooms, ofVectors, roomsOfScorer(s), roomsOfScorer(other), roomsOf(all), roomsOf(again), []room{roomOf(a), roomOf(b), roomOf(c), roomOf(d)})...) {
			t.Fatal("P16.4: answers share memory")
		}
		// Neither a change of the form, nor one of vectors or answers, changes what is answered.
		fill(a, -9)
		fill(c, -9)
		for _, one := range all {
			fill(one, -9)
		}
		fill(all, nil)
		x := slices.Clone(l[0])
		for _, one := range l {
			fill(one, 0.25)
		}
		spoil(f)
		if got, why := s.Score(x); why != api.OK || !slices.Equal(got, b) || !slices.Equal(got, again[0]) {
			t.Fatalf("P16.4: Score(%v) = %v, %d, not %v", x, got, why, b)
		}
		if got, why := s.Exits(x); why != api.OK || !slices.Equal(got, d) {
			t.Fatalf("P16.4: Exits(%v) = %v, %d, not %v", x, got, why, d)
		}
		works(t, s, x, w)
		if s.Features() != 3 || s.Outputs() != 3 || s.Trees() != len(e.Trees) {
			t.Fatal("P16.4: a change of the form is seen")
		}
	}
}

// A call that is refused changes neither what is handed in nor what is answered later.
func TestRefused(t *testing.T) {
	f := formOf(t, pair(), 2)
	f.Blocks[0].Lists[1].Numbers[0].Threshold = 7
	rooms := roomsOfForm(f)
	before := whole(rooms)
	noScorer(t, "thresholds that fall", f, api.ErrForm)
	if !bytes.Equal(whole(rooms), before) {
		t.Error("P16.4: what is handed in was changed")
	}
	s := scorer(t, pair(), 2)
	refused(t, "too short", s, []float64{nan}, api.ErrVector)
	says(t, s, []float64{4, 1}, []int64{111}, []int{0, 0})
}

// A capacity is not seen, neither of a form's lists nor of vectors.
func TestCapacity(t *testing.T) {
	r := source()
	for range 100 {
		e := someEnsemble(r, 1+r.IntN(5), 3)
		f := formOf(t, e, 2)
		s, _ := New(f)
		for i := range f.Blocks {
			b := &f.Blocks[i]
			for k := range b.Lists {
				l := &b.Lists[k]
				behind := api.Cut{Threshold: -endless, To: 1}
				l.Numbers, l.Cats, l.Lost = spare(l.Numbers, behind), spare(l.Cats, behind), spare(l.Lost, behind)
			}
			b.Leaves, b.Values, b.Outputs, b.Lists = spare(b.Leaves, 1), spare(b.Values, []int64{1}), spare(b.Outputs, 0), spare(b.Lists, api.List{})
		}
		f.Blocks = spare(f.Blocks, api.Block{First: 1})
		roomy, why := New(f)
		if why != api.OK {
			t.Fatal("P3: a capacity is seen:", why)
		}
		for _, x := range someVectors(r, 5, 3) {
			a, _ := s.Score(x)
			b, _ := roomy.Score(spare(x, 3))
			if !slices.Equal(a, b) {
				t.Fatalf("P3: a capacity is seen: %v and %v", a, b)
			}
		}
	}
}

// Two scorers, even of one form, have nothing to do with one another; no goroutine is left behind.
func TestScorersAtOneTime(t *testing.T) {
	r := source()
	e := someEnsemble(r, 20, 3)
	f, _ := blocks.Compile(e, 6)
	l := someVectors(r, 30, 3)
	type answer struct {
		all   [][]int64
		exits [][]int
		works []int
	}
	ask := func() answer {
		var a answer
		s, _ := New(f)
		a.all, _, _ = s.All(l)
		for _, x := range l {
			exits, _ := s.Exits(x)
			n, _ := s.Work(x)
			a.exits, a.works = append(a.exits, exits), append(a.works, n)
		}
		return a
	}
	want := ask()
	answers := make([]answer, 8)
	synctest.Test(t, func(*testing.T) { // is back when each goroutine has ended, and panics if one never will
		for i := range answers {
			go func() { answers[i] = ask() }()
		}
	})
	for _, a := range answers {
		if !reflect.DeepEqual(a, want) {
			t.Fatal("P4: scorers at one time answer otherwise")
		}
	}
}

// Asked by turns, two scorers of one form answer as each would alone.
func TestScorersByTurns(t *testing.T) {
	r := source()
	e := someEnsemble(r, 10, 3)
	one, other := scorer(t, e, 3), scorer(t, e, 4)
	for _, x := range someVectors(r, 50, 3) {
		y := someVector(r, 3)
		a, _ := one.Score(x)
		other.Score(y)
		b, _ := one.Score(x)
		alone := scorer(t, e, 1)
		c, _ := alone.Score(x)
		if !slices.Equal(a, b) || !slices.Equal(a, c) {
			t.Fatalf("P4: %v: %v, %v, %v", x, a, b, c)
		}
	}
}

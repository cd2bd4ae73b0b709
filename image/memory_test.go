package image

import (
	"bytes"
	"cmp"
	"fmt"
	"math"
	"math/rand/v2"
	"runtime"
	"slices"
	"testing"
	"testing/synctest"
	"unsafe"

	"thicket/api"
	"thicket/blocks"
)

// room is a list's memory, its spare room included.
type room []byte

func roomOf[T any](l []T) room {
	var one T
	return unsafe.Slice((*byte)(unsafe.Pointer(unsafe.SliceData(l))), cap(l)*int(unsafe.Sizeof(one)))
}

func (r room) from() uintptr { return uintptr(unsafe.Pointer(unsafe.SliceData(r))) }

func (r room) to() uintptr { return r.from() + uintptr(len(r)) }

func roomsOfForm(f api.Form) []room {
	l := []room{roomOf(f.Base), roomOf(f.Blocks)}
	for _, b := range f.Blocks {
		l = append(l, roomOf(b.Leaves), roomOf(b.Values), roomOf(b.Outputs), roomOf(b.Lists))
		for _, v := range b.Values {
			l = append(l, roomOf(v))
		}
		for _, one := range b.Lists {
			for _, cuts := range [][]api.Cut{one.Numbers, one.Cats, one.Lost} {
				l = append(l, roomOf(cuts))
				for _, c := range cuts {
					l = append(l, roomOf(c.Cats))
				}
			}
		}
	}
	return l
}

// apart tells whether no two rooms have a byte in common.
func apart(l ...room) bool {
	l = slices.DeleteFunc(l, func(r room) bool { return len(r) == 0 })
	slices.SortFunc(l, func(a, b room) int { return cmp.Compare(a.from(), b.from()) })
	for i := 1; i < len(l); i++ {
		if l[i].from() < l[i-1].to() {
			return false
		}
	}
	return true
}

// whole is what stands in rooms, byte by byte.
func whole(l []room) []byte { return slices.Concat(l...) }

// fill writes over a list, its spare room included.
func fill[T any](l []T, v T) {
	for i := range l[:cap(l)] {
		l[:cap(l)][i] = v
	}
}

// spare is a list with room behind it in which something stands.
func spare[T any](l []T, behind T) []T {
	return append(append(make([]T, 0, len(l)+3), l...), behind, behind)[:len(l)]
}

func cut(threshold float64, tree, from, to int, cats ...int) api.Cut {
	return api.Cut{Threshold: threshold, Cats: cats, Tree: tree, From: from, To: to}
}

// roomy is a form in lists with room behind them, in which other things stand.
func roomy(f api.Form) api.Form {
	f = blocks.Copy(f)
	for i := range f.Blocks {
		b := &f.Blocks[i]
		for k, v := range b.Values {
			b.Values[k] = spare(v, 99)
		}
		for k := range b.Lists {
			for _, cuts := range []*[]api.Cut{&b.Lists[k].Numbers, &b.Lists[k].Cats, &b.Lists[k].Lost} {
				for j, c := range *cuts {
					(*cuts)[j].Cats = spare(c.Cats, 901)
				}
				*cuts = spare(*cuts, cut(77, 76, 75, 74))
			}
		}
		b.Leaves, b.Values, b.Outputs, b.Lists = spare(b.Leaves, 9), spare(b.Values, nil), spare(b.Outputs, 9), spare(b.Lists, api.List{Feature: 9})
	}
	f.Base, f.Blocks = spare(f.Base, 99), spare(f.Blocks, api.Block{First: 99})
	return f
}

// spoil writes over all that is a form's.
func spoil(f api.Form) {
	for _, b := range f.Blocks {
		for _, v := range b.Values {
			fill(v, -9)
		}
		for _, l := range b.Lists {
			for _, cuts := range [][]api.Cut{l.Numbers, l.Cats, l.Lost} {
				for _, c := range cuts {
					fill(c.Cats, -9)
				}
				fill(cuts, cut(-9, -9, -9, -9))
			}
		}
		fill(b.Leaves, -9)
		fill(b.Outputs, -9)
		fill(b.Values, nil)
		fill(b.Lists, api.List{Feature: -9})
	}
	fill(f.Blocks, api.Block{First: -9})
	fill(f.Base, -9)
}

func TestMemory(t *testing.T) {
	r := source()
	for i := range 400 {
		_, plain := someForm(t, r, r.IntN(6))
		want := sealed(encodeByWords(plain))
		f := roomy(plain)
		if i%10 == 0 { // a call that is refused changes nothing either
			f.Outputs = 2
		}
		given := roomsOfForm(f)
		before := whole(given)
		a, why := Encode(f)
		b, _ := Encode(f)
		if !bytes.Equal(whole(given), before) {
			t.Fatal("21.3: what is handed in was changed")
		}
		if i%10 == 0 {
			if why != api.ErrForm {
				t.Fatal("21.1: a wrong form:", why)
			}
			continue
		}
		if !bytes.Equal(a, want) || !bytes.Equal(b, want) {
			t.Fatal("P3: a capacity is seen, or an answer is another the second time")
		}
		if !apart(slices.Concat(given, []room{roomOf(a), roomOf(b)})...) {
			t.Fatal("21.3: answers share memory")
		}
		fill(a, 9)
		spoil(f)
		if !bytes.Equal(b, want) {
			t.Fatal("21.3: what is handed in is kept")
		}
	}
}

func TestMemoryOfDecode(t *testing.T) {
	r := source()
	for i := range 400 {
		_, plain := someForm(t, r, r.IntN(6))
		b := spare(sealed(encodeByWords(plain)), 77)
		if i%10 == 0 { // refused
			b[r.IntN(len(b))] ^= 1
		}
		given := roomOf(b)
		before := bytes.Clone(given)
		one, why, _ := Decode(b)
		two, _, _ := Decode(b)
		Sum(b)
		if !bytes.Equal(given, before) {
			t.Fatal("21.3: what is handed in was changed")
		}
		if i%10 == 0 {
			if why == api.OK {
				t.Fatal("21.5: a turned byte is taken")
			}
			continue
		}
		if !blocks.Same(one, plain) || !blocks.Same(two, plain) {
			t.Fatal("P3: a capacity is seen, or an answer is another the second time")
		}
		if !apart(slices.Concat([]room{given}, roomsOfForm(one), roomsOfForm(two))...) {
			t.Fatal("21.3: answers share memory")
		}
		spoil(one)
		if again, _, _ := Decode(b); !blocks.Same(again, plain) || !blocks.Same(two, plain) {
			t.Fatal("21.3: an answer is kept")
		}
		fill(b, 9)
		if !blocks.Same(two, plain) {
			t.Fatal("21.3: what is handed in is kept")
		}
	}
}

// nil and empty lists are alike.
func TestEmptyLists(t *testing.T) {
	f := compiled(t, many(), 1)
	want, _ := Encode(f)
	for i := range f.Blocks {
		for k := range f.Blocks[i].Lists {
			l := &f.Blocks[i].Lists[k]
			for _, cuts := range []*[]api.Cut{&l.Numbers, &l.Cats, &l.Lost} {
				if len(*cuts) == 0 {
					*cuts = []api.Cut{}
				}
			}
			for j := range l.Numbers {
				l.Numbers[j].Cats = []int{}
			}
		}
	}
	isImage(t, "empty lists", f, want)
	isImage(t, "no blocks", api.Form{Features: 1, Outputs: 1, Base: []int64{0}, Blocks: []api.Block{}}, framed("01 01 00 00"))
}

// anyForm is a form in which any numbers stand.
func anyForm(r *rand.Rand) api.Form {
	odd := func() int {
		return []int{0, 0, 0, 1, 1, 2, 3, -1, math.MinInt, math.MaxInt, r.Int()}[r.IntN(11)]
	}
	cuts := func() []api.Cut {
		var l []api.Cut
		for range r.IntN(3) {
			l = append(l, cut([]float64{0, 1, nan}[r.IntN(3)], odd(), odd(), odd(), []int{odd(), odd()}[:r.IntN(3)]...))
		}
		return l
	}
	f := api.Form{Features: odd(), Outputs: odd(), Base: make([]int64, r.IntN(3))}
	for range r.IntN(3) {
		b := api.Block{First: odd(), Leaves: []int{odd(), odd()}[:r.IntN(3)], Outputs: []int{odd(), odd()}[:r.IntN(3)]}
		for range r.IntN(3) {
			b.Values = append(b.Values, make([]int64, r.IntN(3)))
		}
		for range r.IntN(3) {
			b.Lists = append(b.Lists, api.List{Feature: odd(), Numbers: cuts(), Cats: cuts(), Lost: cuts()})
		}
		f.Blocks = append(f.Blocks, b)
	}
	return f
}

// Any form at all: blocks.Check's error, or an image that is read back.
func TestAnything(t *testing.T) {
	r := source()
	for range 20000 {
		f := anyForm(r)
		if why, _ := blocks.Check(f); why != api.OK {
			isRefused(t, "any form", f)
		} else {
			isImage(t, "any form", f, sealed(encodeByWords(f)))
		}
		if t.Failed() {
			return
		}
	}
}

// A count takes no memory of its own, and what is read takes no more than its bytes allow.
func TestHugeCounts(t *testing.T) {
	b := framed("01 80 80 80 80 80 80 80 10" + "00 00 00 00 00")
	var before, after runtime.MemStats
	runtime.ReadMemStats(&before)
	for range 100 {
		Decode(b)
	}
	runtime.ReadMemStats(&after)
	if grown := after.TotalAlloc - before.TotalAlloc; grown > 1<<20 {
		t.Errorf("P1: %d bytes for a count", grown)
	}
	isFaulty(t, "many Outputs", b, api.ErrImage, 18)
}

// Calls at one time have nothing to do with one another; no goroutine is left behind.
func TestAtOneTime(t *testing.T) {
	_, f := someForm(t, source(), 20)
	b, _ := Encode(f)
	ask := func() string {
		c, why := Encode(f)
		g, no, at := Decode(b)
		return fmt.Sprint(c, why, said(g), no, at, Sum(b))
	}
	want := ask()
	answers := make([]string, 8)
	synctest.Test(t, func(*testing.T) { // is back when each goroutine has ended, and panics if one never will
		for i := range answers {
			go func() { answers[i] = ask() }()
		}
	})
	for _, a := range answers {
		if a != want {
			t.Fatal("P4: calls at one time answer otherwise")
		}
	}
}

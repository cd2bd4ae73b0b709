package rank

import (
	"bytes"
	"cmp"
	"fmt"
	"math"
	"slices"
	"testing"
	"testing/synctest"
	"unsafe"

	"thicket/api"
)

// room is a list's memory, its spare room included.
type room []byte

func roomOf[T any](l []T) room {
	var one T
	return unsafe.Slice((*byte)(unsafe.Pointer(unsafe.SliceData(l))), cap(l)*int(unsafe.Sizeof(one)))
}

func (r room) from() uintptr { return uintptr(unsafe.Pointer(unsafe.SliceData(r))) }

func (r room) to() uintptr { return r.from() + uintptr(len(r)) }

// areApart tells whether no two rooms have a byte in common.
func areApart(l ...room) bool {
	l = slices.DeleteFunc(l, func(r room) bool { return len(r) == 0 })
	slices.SortFunc(l, func(a, b room) int { return cmp.Compare(a.from(), b.from()) })
	for i := 1; i < len(l); i++ {
		if l[i].from() < l[i-1].to() {
			return false
		}
	}
	return true
}

// bytesOf is what stands in rooms, byte by byte.
func bytesOf(l []room) []byte { return slices.Concat(l...) }

// fill writes over a list, its spare room included.
func fill[T any](l []T, v T) {
	for i := range l[:cap(l)] {
		l[:cap(l)][i] = v
	}
}

// spare is a list with room behind it in which something stands.
func spare[T any](l []T, behind T) []T {
	return append(append(make([]T, 0, len(l)+3), l...), behind, behind)[:len(l)]
}

func roomsOfRatios(l ...api.Ratio) []room {
	var rooms []room
	for _, r := range l {
		rooms = append(rooms, roomOf(r.Num), roomOf(r.Den))
	}
	return rooms
}

// answers are those of each call that takes these, as a text, and their lists.
func answers(scores, other []int64, hit []bool, k int) (string, []room) {
	text, rooms := "", []room{}
	tell := func(r api.Ratio, why api.Errno) {
		text += said(r, why) + ";"
		rooms = append(rooms, roomsOfRatios(r)...)
	}
	tellAll := func(l []api.Ratio, why api.Errno) {
		text += allSaid(l, why) + ";"
		rooms = append(append(rooms, roomOf(l)), roomsOfRatios(l...)...)
	}
	order := Order(scores)
	text += fmt.Sprint(order)
	rooms = append(rooms, roomOf(order))
	tellAll(Ranks(scores), api.OK)
	tell(Auc(scores, hit))
	tell(Precision(scores, hit, k))
	tell(Average(scores, hit))
	tell(Gain(scores, other, k))
	tell(Share(scores, other, k))
	tell(Tau(scores, other))
	tell(Error(scores, other))
	tellAll(Pools(scores, other))
	return text, rooms
}

func TestMemory(t *testing.T) {
	r := source()
	for i := range 500 {
		many := r.IntN(12)
		plain, worth, isHit, k := someNumbers(r, many), amounts(someNumbers(r, many)), someHits(r, many), r.IntN(many+1)
		if i%4 == 0 { // calls that are refused change nothing either
			worth, isHit, k = append(worth, 1), append(isHit, true), -1
		}
		want, _ := answers(plain, worth, isHit, k)
		scores, other, hit := spare(plain, most), spare(worth, least), spare(isHit, true)
		given := []room{roomOf(scores), roomOf(other), roomOf(hit)}
		before := bytesOf(given)
		text, rooms := answers(scores, other, hit, k)
		again, others := answers(scores, other, hit, k)
		if text != want || again != want {
			t.Fatalf("P3: a capacity is seen, or an answer is another the second time: %s, not %s", text, want)
		}
		if !bytes.Equal(bytesOf(given), before) {
			t.Fatal("27.6: what is handed in was changed")
		}
		if !areApart(slices.Concat(given, rooms, others)...) {
			t.Fatal("27.6: answers share memory")
		}
		kept := bytesOf(others)
		for _, r := range rooms {
			clear(r)
		}
		if text, _ := answers(scores, other, hit, k); text != want {
			t.Fatal("27.6: an answer is kept")
		}
		fill(scores, -9)
		fill(other, -9)
		fill(hit, true)
		if !bytes.Equal(bytesOf(others), kept) {
			t.Fatal("27.6: what is handed in is kept")
		}
	}
}

// One list handed in twice is as two that are alike.
func TestOneListTwice(t *testing.T) {
	l := whole(3, 1, 2, 3)
	twin := slices.Clone(l)
	is(t, "27.3: Gain", said(Gain(l, l, 4)), said(Gain(l, twin, 4)))
	is(t, "27.3: Share", said(Share(l, l, 4)), "1")
	is(t, "27.4: Tau", said(Tau(l, l)), said(Tau(l, twin)))
	is(t, "27.4: Error", said(Error(l, l)), "0")
	is(t, "27.5: Pools", allSaid(Pools(l, l)), "3 1 2 3")
	if !slices.Equal(l, twin) {
		t.Error("27.6: what is handed in was changed")
	}
}

// nil and empty lists are alike.
func TestEmptyLists(t *testing.T) {
	for _, k := range []int{-1, 0, 1} {
		want, _ := answers(nil, nil, nil, k)
		for _, l := range [][]int64{{}, whole(7, 8)[:0]} {
			for _, hit := range [][]bool{nil, {}, hits(2, 0)[:0]} {
				if got, _ := answers(l, l, hit, k); got != want {
					t.Errorf("P1: of empty lists: %s, not %s", got, want)
				}
				if got, _ := answers(nil, l, hit, k); got != want {
					t.Errorf("P1: of a nil and an empty list: %s, not %s", got, want)
				}
			}
		}
	}
}

// Calls at one time have nothing to do with one another; no goroutine is left behind: a bubble is back when each one within has ended, and panics if one never will.
func TestAtOneTime(t *testing.T) {
	r := source()
	scores, other, hit := someNumbers(r, 50), someNumbers(r, 50), someHits(r, 50)
	want, _ := answers(scores, other, hit, 30)
	texts := make([]string, 16)
	synctest.Test(t, func(*testing.T) {
		for i := range texts {
			go func() { texts[i], _ = answers(scores, other, hit, 30) }()
		}
	})
	for _, s := range texts {
		if s != want {
			t.Fatal("P3, P4: calls at one time answer otherwise")
		}
	}
}

// Any lists, of any lengths, any k: no call panics, and just the first error is told that applies.
func TestAnything(t *testing.T) {
	r := source()
	count := map[api.Errno]int{}
	for range 20000 {
		many := r.IntN(5)
		length := func() int { return max(0, many+[]int{0, 0, 0, 0, 1, -1}[r.IntN(6)]) }
		a, b, hit := someNumbers(r, many), someNumbers(r, length()), someHits(r, length())
		k := []int{-1, 0, 1, many, many + 1, r.IntN(many + 1), math.MinInt, math.MaxInt}[r.IntN(8)]
		places := placesByWords(a)
		first := func(isSize, isRange, isClass bool) api.Errno {
			switch {
			case isSize:
				return api.ErrSize
			case isRange:
				return api.ErrRange
			case isClass:
				return api.ErrClass
			}
			return api.OK
		}
		unlike, unlikeHits := len(a) != len(b), len(a) != len(hit)
		isOut, isBelow := k < 0 || k > many, k < 1 || k > many
		noAuc := unlikeHits || aucByWords(a, hit) == nil
		noAverage := unlikeHits || averageByWords(places, hit) == nil
		noShare := unlike || isOut || shareByWords(a, b, k) == nil
		for what, c := range map[string]struct {
			want api.Errno
			call func() (api.Ratio, api.Errno)
		}{
			"27.2: Auc":       {first(unlikeHits, false, noAuc), func() (api.Ratio, api.Errno) { return Auc(a, hit) }},
			"27.2: Precision": {first(unlikeHits, isBelow, false), func() (api.Ratio, api.Errno) { return Precision(a, hit, k) }},
			"27.2: Average":   {first(unlikeHits, false, noAverage), func() (api.Ratio, api.Errno) { return Average(a, hit) }},
			"27.3: Gain":      {first(unlike, isOut, false), func() (api.Ratio, api.Errno) { return Gain(a, b, k) }},
			"27.3: Share":     {first(unlike, isOut, noShare), func() (api.Ratio, api.Errno) { return Share(a, b, k) }},
			"27.4: Tau":       {first(unlike, false, many < 2), func() (api.Ratio, api.Errno) { return Tau(a, b) }},
			"27.4: Error":     {first(unlike, false, many < 1), func() (api.Ratio, api.Errno) { return Error(a, b) }},
		} {
			r, why := c.call()
			if why != c.want {
				t.Fatalf("%s of %v, %v, %v, %d: %d, not %d", what, a, b, hit, k, why, c.want)
			}
			if why != api.OK && (r.Neg || r.Num != nil || r.Den != nil) {
				t.Fatalf("P2: %s: %v beside an error", what, r)
			}
			count[why]++
		}
		if l, why := Pools(a, b); why != first(unlike, false, false) || why != api.OK && l != nil || why == api.OK && len(l) != many {
			t.Fatalf("27.5: Pools of %v, %v: %v, %d", a, b, l, why)
		}
	}
	for _, why := range []api.Errno{api.OK, api.ErrSize, api.ErrRange, api.ErrClass} {
		if count[why] < 1000 {
			t.Error("few of these:", why, count[why])
		}
	}
}

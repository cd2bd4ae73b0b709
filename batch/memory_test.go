package batch

import (
	"bytes"
	"cmp"
	"fmt"
	"reflect"
	"slices"
	"strings"
	"testing"
	"testing/synctest"
	"unsafe"

	"thicket/api"
)

// room is a list's memory, its spare room included.
type room []byte

func roomOf[T any](l []T) room {
	var one T
	return unsafe.Slice((*byte)(unsafe.Pointer(unsafe.SliceData(l))), cap(l)*int(unsafe.Sizeof(one)))
}

func roomOfText(s string) room { return unsafe.Slice(unsafe.StringData(s), len(s)) }

func (r room) from() uintptr { return uintptr(unsafe.Pointer(unsafe.SliceData(r))) }

func (r room) to() uintptr { return r.from() + uintptr(len(r)) }

func roomsOf(l [][]float64) []room {
	out := []room{roomOf(l)}
	for _, x := range l {
		out = append(out, roomOf(x))
	}
	return out
}

func roomsOfNames(l []string) []room {
	out := []room{roomOf(l)}
	for _, s := range l {
		out = append(out, roomOfText(s))
	}
	return out
}

func roomsOfAnswer(a answer) []room { return append(roomsOf(a.l), roomOf(a.labels)) }

// apart tells whether no two rooms have a byte in common.
func apart(l ...room) bool {
	l = slices.DeleteFunc(l, func(r room) bool { return len(r) == 0 })
	slices.SortFunc(l, func(a, b room) int { return cmp.Compare(a.from(), b.from()) })
	for i := 1; i < len(l); i++ {
		if l[i].from() < l[i-1].to() {
			return false
		}
	}
	return true
}

// whole is what stands in rooms, byte by byte.
func whole(l []room) []byte { return slices.Concat(l...) }

// fill writes over a list, its spare room included.
func fill[T any](l []T, v T) {
	for i := range l[:cap(l)] {
		l[:cap(l)][i] = v
	}
}

// spare is a list with room behind it in which something stands.
func spare[T any](l []T, behind T) []T {
	return append(append(make([]T, 0, len(l)+3), l...), behind, behind)[:len(l)]
}

// readers are calls whose answers have several vectors.
func readers() map[string]func() answer {
	features := []string{"a", "b", "c"}
	return map[string]func() answer{
		"Dense":        func() answer { return dense("1 2 3\n4 5 6\n\n7 8 nan\n-0 0 1\n2 3 4\n", 3) },
		"Dense of one": func() answer { return dense("1\n2\n3\n4", 1) },
		"Csv":          func() answer { return csv("c,a,x,b\n1,2,,3\n4,5,?,6\n7,8,9,\n1,1,1,1\n2,2,2,2", features...) },
		"Sparse":       func() answer { return sparse("1 1:1\n2 2:2\n3\n4 1:1 2:2 3:3\n5 3:5\n", 3, false) },
		"Sparse, lost": func() answer { return sparse("1 1:1\n2 2:2\n3\n4 1:1 2:2 3:3\n5 3:5\n", 3, true) },
	}
}

// Each vector has room of its own: none of another one's, of the labels', of another answer's.
func TestMemoryOfReaders(t *testing.T) {
	for what, read := range readers() {
		a, b := read(), read()
		if a.why != api.OK || len(a.l) < 3 {
			t.Fatalf("%s: %v", what, a)
		}
		if !apart(slices.Concat(roomsOfAnswer(a), roomsOfAnswer(b))...) {
			t.Errorf("17.5: %s: answers share memory", what)
		}
		for i := range a.l {
			fill(a.l[i], -9)
			for k := i + 1; k < len(a.l); k++ {
				if !equal(a.l[k], b.l[k]) {
					t.Errorf("17.5: %s: a change of vector %d is seen in vector %d", what, i, k)
				}
			}
		}
		longer := read()
		for i := range longer.l {
			longer.l[i] = append(longer.l[i], 77, 78)
			if i+1 < len(b.l) && !equal(longer.l[i+1], b.l[i+1]) {
				t.Errorf("17.5: %s: what is put behind a vector is seen in the next one", what)
			}
		}
		fill(a.l, nil)
		fill(a.labels, -9)
		c := read()
		says(t, "17.5: "+what+": asked again", c, b.l, b.labels...)
		if !apart(slices.Concat(roomsOfAnswer(b), roomsOfAnswer(c))...) {
			t.Errorf("17.5: %s: an answer is kept", what)
		}
	}
}

// What is handed in stays as it is, its spare room included, and is not kept.
func TestMemoryOfWriters(t *testing.T) {
	r := source()
	for range 200 {
		d := 1 + r.IntN(4)
		l := someVectors(r, 1+r.IntN(4), d)
		for i := range l {
			l[i] = spare(l[i], 5)
		}
		l = spare(l, []float64{1})
		labels := spare(someVectors(r, 1, len(l))[0], 6)
		var names []string
		for _, s := range manyNames(d) {
			names = append(names, strings.Clone(s))
		}
		names = spare(names, "behind")
		given := slices.Concat(roomsOf(l), []room{roomOf(labels)}, roomsOfNames(names))
		before := whole(given)
		one, _ := PrintDense(l)
		two, _ := PrintCsv(names, l)
		three, _ := PrintSparse(l, labels, true)
		a := csv(two, names...)
		Same(l, a.l)
		PrintSparse(l, labels[1:], false)
		PrintCsv(names[1:], l)
		if !bytes.Equal(whole(given), before) {
			t.Fatal("17.5: what is handed in was changed")
		}
		if !apart(slices.Concat(given, roomsOfAnswer(a), []room{roomOfText(one), roomOfText(two), roomOfText(three)})...) {
			t.Fatal("17.5: an answer shares memory with what is handed in")
		}
		texts := []string{strings.Clone(one), strings.Clone(two), strings.Clone(three)}
		for _, x := range l {
			fill(x, -9)
		}
		fill(labels, -9)
		fill(names, "z")
		if !slices.Equal(texts, []string{one, two, three}) {
			t.Fatal("17.5: what is handed in is kept")
		}
	}
}

// A capacity is not seen.
func TestCapacity(t *testing.T) {
	names := []string{"a", "b"}
	l := [][]float64{{1, 2}, {3, 4}}
	roomy := spare([][]float64{spare(l[0], 9), spare(l[1], 9)}, []float64{1})
	if a, b := csv("b,a\n1,2", names...), csv("b,a\n1,2", spare(names, "a")...); !reflect.DeepEqual(a, b) {
		t.Error("P3: Csv", a, b)
	}
	one, _ := PrintDense(l)
	written(t, "P3: PrintDense", one)(PrintDense(roomy))
	two, _ := PrintCsv(names, l)
	written(t, "P3: PrintCsv", two)(PrintCsv(spare(names, "a"), roomy))
	three, _ := PrintSparse(l, []float64{1, 2}, false)
	written(t, "P3: PrintSparse", three)(PrintSparse(roomy, spare([]float64{1, 2}, 3), false))
	if !Same(l, roomy) {
		t.Error("P3: Same")
	}
}

// The same calls at one time answer the same, again and again; no goroutine of them is left.
func TestAtOneTime(t *testing.T) {
	r := source()
	names := manyNames(30)
	l := someVectors(r, 30, 30)
	ask := func() string {
		one, _ := PrintDense(l)
		two, _ := PrintCsv(names, l)
		three, _ := PrintSparse(l, l[0], true)
		a, b := dense(one, 30), csv(two, names...)
		return fmt.Sprint(one, two, three, a, b, csv("f3,f2,f1\n1,2,3\n,z,", "f1", "f2"), sparse("1 1:1\n1 2:x", 3, true))
	}
	want := ask()
	answers := make([]string, 8)
	synctest.Test(t, func(*testing.T) { // is back when each goroutine has ended, and panics if one never will
		for i := range answers {
			go func() { answers[i] = ask() }()
		}
	})
	for _, a := range answers {
		if a != want {
			t.Fatal("P3: an answer is another one")
		}
	}
}

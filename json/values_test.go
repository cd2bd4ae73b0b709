package json

import (
	"slices"
	"strings"
	"testing"
	"unsafe"

	"thicket/api"
)

func TestGet(t *testing.T) {
	o := objectOf(numberOf("1"), listOf(numberOf("2"), objectOf(textOf("x"))))
	if v, ok := Get(o, "b"); !ok || !equal(v, o.Items[1]) {
		t.Error("P10.4: b:", v, ok)
	}
	gets := func(v api.Json, name string, want api.Json, is bool) {
		t.Helper()
		if got, ok := Get(v, name); ok != is || !equal(got, want) {
			t.Errorf("P10.4: Get(%v, %q) = %v, %v", v, name, got, ok)
		}
	}
	two := api.Json{Kind: api.JsonObject, Names: []string{"a", "b"}, Items: []api.Json{numberOf("1"), numberOf("2")}}
	gets(two, "b", numberOf("2"), true)
	gets(two, "a", numberOf("1"), true)
	for _, name := range []string{"c", "", "A", "a ", "ab", "\xff"} {
		gets(two, name, api.Json{}, false)
	}
	for _, kind := range []api.JsonKind{api.JsonNone, api.JsonNull, api.JsonFalse, api.JsonTrue, api.JsonNumber, api.JsonText, api.JsonList, 8, 255} {
		v := two
		v.Kind = kind
		gets(v, "a", api.Json{}, false)
	}
	// Objects made by hand: twins, names without items, items without names, names of any bytes, values of any kind.
	gets(api.Json{Kind: api.JsonObject, Names: []string{"x", "a", "a"}, Items: []api.Json{numberOf("1"), numberOf("2"), numberOf("3")}}, "a", numberOf("2"), true)
	gets(api.Json{Kind: api.JsonObject, Names: []string{"x", "a"}, Items: []api.Json{numberOf("1")}}, "a", api.Json{}, false)
	gets(api.Json{Kind: api.JsonObject, Names: []string{"x", "a"}, Items: []api.Json{numberOf("1")}}, "x", numberOf("1"), true)
	gets(api.Json{Kind: api.JsonObject, Names: []string{"a"}}, "a", api.Json{}, false)
	gets(api.Json{Kind: api.JsonObject, Names: []string{"a"}, Items: []api.Json{numberOf("1"), numberOf("2")}, Text: "odd"}, "a", numberOf("1"), true)
	gets(api.Json{Kind: api.JsonObject, Items: []api.Json{numberOf("1")}}, "", api.Json{}, false)
	gets(api.Json{Kind: api.JsonObject, Names: []string{"\xff", ""}, Items: []api.Json{{Kind: 99, Text: "odd"}, numberOf("e")}}, "\xff", api.Json{Kind: 99, Text: "odd"}, true)
	gets(api.Json{Kind: api.JsonObject, Names: []string{"\xff", ""}, Items: []api.Json{{}, numberOf("e")}}, "", numberOf("e"), true)
	gets(objectOf(api.Json{}), "a", api.Json{}, true)
	gets(api.Json{}, "", api.Json{}, false)
}

func TestSameAndCopy(t *testing.T) {
	r := source()
	var l []api.Json
	for range 300 {
		l = append(l, someValue(r, 3, false))
	}
	l = append(l, api.Json{}, nested(numberOf("1"), 60000, api.JsonNull, api.JsonList))
	for i, a := range l {
		c := Copy(a)
		if !Same(a, c) || !Same(c, a) || !equal(a, c) || !Same(a, a) {
			t.Fatalf("P10.4: %v and its copy %v", a, c)
		}
		for _, b := range l[:min(i+1, 200)] {
			if Same(a, b) != equal(a, b) || Same(b, a) != equal(a, b) {
				t.Fatalf("P10.4: Same(%v, %v)", a, b)
			}
		}
	}
	one := api.Json{Kind: 9, Text: "t", Names: []string{"a", "b"}, Items: []api.Json{listOf(numberOf("1"), textOf("x")), numberOf("2")}}
	for what, turn := range map[string]func(v *api.Json){
		"Kind": func(v *api.Json) { v.Kind = 8 }, "Text": func(v *api.Json) { v.Text = "T" }, "no Text": func(v *api.Json) { v.Text = "" }, "a name": func(v *api.Json) { v.Names[1] = "c" }, "fewer Names": func(v *api.Json) { v.Names = v.Names[:1] }, "no Names": func(v *api.Json) { v.Names = nil },
		"Names' order": func(v *api.Json) { slices.Reverse(v.Names) }, "Items' order": func(v *api.Json) { slices.Reverse(v.Items) }, "fewer Items": func(v *api.Json) { v.Items = v.Items[:1] }, "more Items": func(v *api.Json) { v.Items = append(v.Items, api.Json{}) }, "no Items": func(v *api.Json) { v.Items = nil },
		"an item": func(v *api.Json) { v.Items[1].Text = "3" }, "an item within": func(v *api.Json) { v.Items[0].Items[1].Kind = api.JsonNumber }, "a name within": func(v *api.Json) { v.Items[0].Names = []string{"n"} }, "the order within": func(v *api.Json) { slices.Reverse(v.Items[0].Items) },
	} {
		v := Copy(one)
		turn(&v)
		if Same(v, one) || Same(one, v) {
			t.Error("P10.4: Same:", what)
		}
		if Same(listOf(v), listOf(one)) || !Same(listOf(v), listOf(v)) {
			t.Error("P10.4: Same within:", what)
		}
	}
	if !Same(api.Json{Kind: api.JsonList, Names: []string{}, Items: []api.Json{}}, api.Json{Kind: api.JsonList}) {
		t.Error("P10.4: nil and empty lists are alike")
	}
	if Same(numberOf("1"), numberOf("1.0")) || Same(numberOf("1"), textOf("1")) {
		t.Error("P10.4: numbers are held against each other as they are written")
	}
}

// room is where memory begins and ends, spare room included.
type room struct{ from, to uintptr }

func roomOf[T any](l []T) room {
	var one T
	from := uintptr(unsafe.Pointer(unsafe.SliceData(l)))
	return room{from, from + uintptr(cap(l))*unsafe.Sizeof(one)}
}

// listsOf are the rooms of a value's lists.
func listsOf(v api.Json) []room {
	l := []room{roomOf(v.Names), roomOf(v.Items)}
	for _, item := range v.Items {
		l = append(l, listsOf(item)...)
	}
	return l
}

// textsOf are the rooms of a value's texts.
func textsOf(v api.Json) []room {
	var l []room
	for _, s := range append([]string{v.Text}, v.Names...) {
		from := uintptr(unsafe.Pointer(unsafe.StringData(s)))
		l = append(l, room{from, from + uintptr(len(s))})
	}
	for _, item := range v.Items {
		l = append(l, textsOf(item)...)
	}
	return l
}

// apart tells whether no two rooms have a byte in common.
func apart(l ...room) bool {
	l = slices.DeleteFunc(l, func(r room) bool { return r.from == r.to })
	slices.SortFunc(l, func(a, b room) int {
		if a.from < b.from {
			return -1
		}
		return 1
	})
	for i := 1; i < len(l); i++ {
		if l[i].from < l[i-1].to {
			return false
		}
	}
	return true
}

// disjoint tells whether none of some rooms has a byte in common with one of others.
func disjoint(these, others []room) bool {
	for _, a := range these {
		for _, b := range others {
			if a.from < b.to && b.from < a.to {
				return false
			}
		}
	}
	return true
}

func TestMemory(t *testing.T) {
	r := source()
	for range 300 {
		v := someValue(r, 3, true)
		v = listOf(objectOf(v, textOf(strings.Clone("some text"))), v)
		b, _ := Print(v)
		more, _ := Print(v)
		before := string(b)
		one, _, _ := Parse(b)
		two, _, _ := Parse(b)
		if string(b) != before || !apart(slices.Concat(listsOf(one), listsOf(two), []room{roomOf(b), roomOf(more)})...) || !disjoint(textsOf(one), []room{roomOf(b)}) {
			t.Fatal("P10.5: Parse or Print share memory")
		}
		for i := range b {
			b[i] = 'x'
		}
		if !equal(one, v) || string(more) != before {
			t.Fatal("P10.5: a change of the text is seen in the value")
		}
		copied := Copy(one)
		got, _ := Get(one.Items[0], "a")
		if !apart(slices.Concat(listsOf(one), listsOf(copied), listsOf(got))...) || !disjoint(append(textsOf(copied), textsOf(got)...), textsOf(one)) {
			t.Fatal("P10.5: Copy or Get share memory")
		}
		Check(one)
		Same(one, two)
		Print(one)
		if !equal(one, two) {
			t.Fatal("P10.5: what is handed in is changed")
		}
		spoilAll(&one)
		if !equal(copied, two) || !equal(got, v.Items[1]) {
			t.Fatal("P10.5: a change is seen in a copy")
		}
	}
}

// spoilAll writes into all lists of a value, spare room included.
func spoilAll(v *api.Json) {
	for i := range v.Items {
		spoilAll(&v.Items[i])
	}
	for i := range v.Names[:cap(v.Names)] {
		v.Names[:cap(v.Names)][i] = "spoiled"
	}
	for i := range v.Items[:cap(v.Items)] {
		v.Items[:cap(v.Items)][i] = api.Json{Kind: 77}
	}
}

// Spare room that is handed in stays as it is, and is no part of a value.
func TestSpareRoom(t *testing.T) {
	items := []api.Json{numberOf("1"), {Kind: 99}}
	names := []string{"a", "a"}
	v := api.Json{Kind: api.JsonObject, Names: names[:1], Items: items[:1]}
	b, why := Print(v)
	got, ok := Get(v, "a")
	if Check(v) != api.OK || why != api.OK || string(b) != `{"a":1}` || !ok || !Same(got, numberOf("1")) || !Same(Copy(v), objectOf(numberOf("1"))) {
		t.Error("P3: a capacity is seen")
	}
	if items[1].Kind != 99 || names[1] != "a" {
		t.Error("P10.5: spare room is changed")
	}
	text := []byte(`[1] ]x`)
	if got, why, at := Parse(text[:3]); why != api.OK || at != 0 || !Same(got, listOf(numberOf("1"))) || string(text) != `[1] ]x` {
		t.Error("P3: Parse looks behind a text:", got, why, at)
	}
}

package json

import (
	other "encoding/json"
	"slices"
	"strconv"
	"strings"
	"testing"
	"unicode/utf8"

	"thicket/api"
)

// Numbers are right just if Parse takes them alone, without blanks.
func TestCheckOfNumbers(t *testing.T) {
	allTexts("", "01-+.eE ", 6, func(b []byte) {
		want := api.ErrJson
		if other.Valid(b) && strings.TrimSpace(string(b)) == string(b) {
			want = api.OK
		}
		if why := Check(numberOf(string(b))); why != want {
			t.Errorf("P10.2: the number %q: %d", b, why)
		}
	})
	for _, s := range []string{"", " 1", "1 ", "1\n", "null", "true", `"1"`, "[1]", "nan", "inf", "0x1", "1\x00", "\x00", "１", "1,2"} {
		refuses(t, "the number "+s, numberOf(s), api.ErrJson)
		refuses(t, "the number "+s+" within", objectOf(listOf(numberOf("1")), numberOf(s)), api.ErrJson)
	}
}

func TestCheckOfTexts(t *testing.T) {
	for _, s := range []string{"\xff", "a\x80", "\xed\xa0\x80", "\xc3", "\xf4\x90\x80\x80", "\xc0\x80"} {
		refuses(t, "a text", textOf("é"+s), api.ErrJson)
		refuses(t, "a name", api.Json{Kind: api.JsonObject, Names: []string{"a", s}, Items: []api.Json{textOf(""), textOf("")}}, api.ErrJson)
		refuses(t, "a text within", listOf(listOf(), textOf(s)), api.ErrJson)
	}
}

// A value has the fields of its kind alone: every set of fields, of every kind.
func TestCheckOfFields(t *testing.T) {
	for kind := range 256 {
		for _, text := range []string{"", "1", "x", "\xff"} {
			for names := range 4 {
				for items := range 4 {
					v := api.Json{Kind: api.JsonKind(kind), Text: text}
					for i := range names {
						v.Names = append(v.Names, strconv.Itoa(i))
					}
					for range items {
						v.Items = append(v.Items, textOf("x"))
					}
					right := false
					switch v.Kind {
					case api.JsonNull, api.JsonFalse, api.JsonTrue:
						right = text == "" && names+items == 0
					case api.JsonNumber:
						right = text == "1" && names+items == 0
					case api.JsonText:
						right = text != "\xff" && names+items == 0
					case api.JsonList:
						right = text == "" && names == 0
					case api.JsonObject:
						right = text == "" && names == items
					}
					want := api.ErrJson
					if right {
						want = api.OK
					}
					if why := Check(v); why != want {
						t.Errorf("P10.2: %v: %d, not %d", v, why, want)
					}
					if _, why := Print(v); why != want {
						t.Errorf("P10.3: %v: %d, not %d", v, why, want)
					}
				}
			}
		}
	}
}

// nested is a value within so many others, of these kinds in turn.
func nested(inner api.Json, many int, kinds ...api.JsonKind) api.Json {
	for i := range many {
		v := api.Json{Kind: kinds[i%len(kinds)], Items: []api.Json{inner}}
		if v.Kind == api.JsonObject {
			v.Names = []string{"a"}
		}
		inner = v
	}
	return inner
}

func TestCheckOfDepth(t *testing.T) {
	for _, kinds := range [][]api.JsonKind{{api.JsonList}, {api.JsonObject}, {api.JsonList, api.JsonObject, api.JsonObject}} {
		for _, inner := range []api.Json{numberOf("1"), textOf("x")} {
			v := nested(inner, api.MaxNest, kinds...)
			if why := Check(v); why != api.OK {
				t.Errorf("P10.2: MaxNest deep: %d", why)
			}
			if b, why := Print(v); why != api.OK || len(b) == 0 {
				t.Errorf("P10.3: MaxNest deep: %d", why)
			}
			refuses(t, "one deeper", nested(v, 1, kinds...), api.ErrDeep)
			refuses(t, "far deeper", nested(v, 10000, kinds...), api.ErrDeep)
		}
		for _, empty := range []api.Json{listOf(), objectOf()} {
			if why := Check(nested(empty, api.MaxNest-1, kinds...)); why != api.OK {
				t.Error("P10.2: an empty one, MaxNest deep:", why)
			}
			refuses(t, "an empty one deeper", nested(empty, api.MaxNest, kinds...), api.ErrDeep)
		}
	}
	// Items are gone through, whatever has them; but only lists and objects count.
	for _, kind := range []api.JsonKind{api.JsonNone, api.JsonNull, api.JsonTrue, api.JsonNumber, api.JsonText, 8, 255} {
		high := nested(numberOf("1"), api.MaxNest, api.JsonList)
		refuses(t, "just deep enough, within another kind", nested(high, 1, kind), api.ErrJson)
		refuses(t, "just deep enough, around another kind", nested(nested(numberOf("1"), 5, kind), api.MaxNest, api.JsonList), api.ErrJson)
		refuses(t, "too deep within another kind", nested(nested(high, 1, api.JsonList), 1, kind), api.ErrDeep)
		refuses(t, "too deep with another kind between", nested(nested(high, 3, kind), 1, api.JsonObject), api.ErrDeep)
		refuses(t, "only other kinds", nested(numberOf("1"), 60000, kind), api.ErrJson)
	}
	odd := api.Json{Kind: api.JsonObject, Names: []string{"a", "a"}, Items: []api.Json{numberOf("x"), {}, nested(listOf(), api.MaxNest, api.JsonList)}}
	refuses(t, "deep behind all else", odd, api.ErrDeep)
	ring := []api.Json{numberOf("1"), {Kind: api.JsonList}}
	ring[1].Items = ring
	refuses(t, "a list that is its own item", ring[1], api.ErrDeep)
}

// What is too deep comes first, then what is no right value, then twins, wherever they stand.
func TestOrderOfErrors(t *testing.T) {
	twins := api.Json{Kind: api.JsonObject, Names: []string{"a", "b", "a"}, Items: []api.Json{numberOf("1"), numberOf("2"), numberOf("3")}}
	parts := map[api.Errno]api.Json{api.ErrDeep: nested(listOf(), api.MaxNest, api.JsonObject), api.ErrJson: numberOf("1."), api.ErrTwin: twins, api.OK: textOf("right")}
	order := []api.Errno{api.ErrDeep, api.ErrJson, api.ErrTwin, api.OK}
	for _, a := range order {
		for _, b := range order {
			for _, c := range order {
				want := order[min(slices.Index(order, a), slices.Index(order, b), slices.Index(order, c))]
				for _, v := range []api.Json{listOf(parts[a], parts[b], parts[c]), objectOf(parts[a], listOf(parts[b]), parts[c]), objectOf(objectOf(parts[a], parts[b]), parts[c])} {
					if why := Check(v); why != want {
						t.Errorf("P10.2: %d, %d, %d: %d", a, b, c, why)
					}
					if text, why := Print(v); why != want || (len(text) == 0) != (why != api.OK) {
						t.Errorf("P10.3: %d, %d, %d: %d", a, b, c, why)
					}
				}
			}
		}
	}
	refuses(t, "twins", twins, api.ErrTwin)
	refuses(t, "twins that are empty", api.Json{Kind: api.JsonObject, Names: []string{"", ""}, Items: []api.Json{listOf(), listOf()}}, api.ErrTwin)
	refuses(t, "twins deep within", nested(twins, 100, api.JsonList, api.JsonObject), api.ErrTwin)
	refuses(t, "twins around twins", api.Json{Kind: api.JsonObject, Names: []string{"x", "x"}, Items: []api.Json{twins, twins}}, api.ErrTwin)
	twins.Items = twins.Items[:2]
	refuses(t, "twins without an item", twins, api.ErrJson)
	twins.Text = "x"
	refuses(t, "twins with a text", nested(twins, 2, api.JsonList), api.ErrJson)
	if why := Check(listOf(objectOf(numberOf("1")), objectOf(objectOf(numberOf("1"))))); why != api.OK {
		t.Error("P10.2: one name in several objects:", why)
	}
}

// checkByWords is Check by other words: the worst that is found anywhere.
func checkByWords(v api.Json) api.Errno {
	seen := make(map[api.Errno]int)
	var look func(v api.Json, deep int)
	look = func(v api.Json, deep int) {
		single := len(v.Names)+len(v.Items) == 0
		switch {
		case v.Kind == api.JsonList && v.Text == "" && len(v.Names) == 0, v.Kind == api.JsonText && single && utf8.ValidString(v.Text), v.Kind == api.JsonNumber && single && other.Valid([]byte(v.Text)) && strings.Trim(v.Text, "0123456789-+.eE") == "":
		case v.Kind >= api.JsonNull && v.Kind <= api.JsonTrue && single && v.Text == "":
		case v.Kind == api.JsonObject && v.Text == "" && len(v.Names) == len(v.Items) && utf8.ValidString(strings.Join(v.Names, " ")):
		default:
			seen[api.ErrJson]++
		}
		if v.Kind == api.JsonList || v.Kind == api.JsonObject {
			deep++
		}
		if deep > 256 {
			seen[api.ErrDeep]++
			return
		}
		for i, name := range v.Names {
			if slices.Index(v.Names, name) < i {
				seen[api.ErrTwin]++
			}
		}
		for _, item := range v.Items {
			look(item, deep)
		}
	}
	look(v, 0)
	for _, why := range []api.Errno{api.ErrDeep, api.ErrJson, api.ErrTwin} {
		if seen[why] > 0 {
			return why
		}
	}
	return api.OK
}

func TestCheckOfAnyValues(t *testing.T) {
	r := source()
	told := make(map[api.Errno]int)
	for range 20000 {
		v := someValue(r, r.IntN(4), false)
		if r.IntN(3) == 0 {
			v = someValue(r, 3, true)
			if v.Kind == api.JsonObject && len(v.Names) > 1 {
				v.Names[0] = v.Names[len(v.Names)-1]
			}
		}
		if r.IntN(8) == 0 {
			v = nested(v, 250+r.IntN(8), api.JsonList)
		}
		want := checkByWords(v)
		told[want]++
		if why := Check(v); why != want {
			t.Fatalf("P10.2: %v: %d, not %d", v, why, want)
		}
	}
	for _, why := range []api.Errno{api.OK, api.ErrDeep, api.ErrJson, api.ErrTwin} {
		if told[why] < 100 {
			t.Error("too few values have the error", why)
		}
	}
}

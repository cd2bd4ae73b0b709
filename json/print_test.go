package json

import (
	"slices"
	"strconv"
	"strings"
	"testing"
	"unicode/utf8"

	"thicket/api"
)

// prints asks that a value has this text, and that the text says it.
func prints(t *testing.T, v api.Json, want string) {
	t.Helper()
	b, why := Print(v)
	if why != api.OK || string(b) != want {
		t.Errorf("P10.3: %.100q, %d, not %.100q", b, why, want)
	}
	if again, why, at := Parse(b); why != api.OK || at != 0 || !equal(again, v) {
		t.Errorf("P10.6: Parse(%.100q): %d at %d", b, why, at)
	}
}

// refuses asks that Check and Print have this error of a value.
func refuses(t *testing.T, what string, v api.Json, want api.Errno) {
	t.Helper()
	if why := Check(v); why != want {
		t.Errorf("P10.2: %s: Check: %d, not %d", what, why, want)
	}
	if b, why := Print(v); why != want || len(b) != 0 {
		t.Errorf("P10.3: %s: Print: %.100q, %d, not %d", what, b, why, want)
	}
}

func TestPrintExamples(t *testing.T) {
	prints(t, textOf("a\n\x01"), `"a\n\u0001"`)
	prints(t, numberOf("1.0"), "1.0")
	refuses(t, "1.", numberOf("1."), api.ErrJson)
	refuses(t, "no kind", api.Json{}, api.ErrJson)
	prints(t, word(api.JsonNull), "null")
	prints(t, word(api.JsonFalse), "false")
	prints(t, word(api.JsonTrue), "true")
	prints(t, listOf(), "[]")
	prints(t, objectOf(), "{}")
	prints(t, textOf(""), `""`)
	prints(t, listOf(numberOf("1"), textOf("x"), listOf(word(api.JsonNull)), objectOf(numberOf("-0"), word(api.JsonTrue))), `[1,"x",[null],{"a":-0,"b":true}]`)
	prints(t, api.Json{Kind: api.JsonObject, Names: []string{"", "b\"", "a\x00", "é/"}, Items: []api.Json{listOf(), objectOf(), numberOf("1E+2"), textOf("/")}}, `{"":[],"b\"":{},"a\u0000":1E+2,"é/":"/"}`)
	prints(t, api.Json{Kind: api.JsonList, Names: []string{}, Items: []api.Json{{Kind: api.JsonNull, Names: []string{}, Items: []api.Json{}}}}, "[null]")
}

// Every character is written as it is, but those that may not stand so.
func TestPrintOfEveryCharacter(t *testing.T) {
	short := map[rune]string{'"': `\"`, '\\': `\\`, '\b': `\b`, '\f': `\f`, '\n': `\n`, '\r': `\r`, '\t': `\t`}
	for r := range rune(0x110000) {
		if !utf8.ValidRune(r) || r > 0x3000 && r < 0xfff00 && r%61 != 0 {
			continue
		}
		want := string(r)
		if s, ok := short[r]; ok {
			want = s
		} else if r < 0x20 {
			want = `\u` + strconv.FormatInt(0x10000+int64(r), 16)[1:]
		}
		b, why := Print(api.Json{Kind: api.JsonObject, Names: []string{string(r)}, Items: []api.Json{textOf("x" + string(r))}})
		if why != api.OK || string(b) != `{"`+want+`":"x`+want+`"}` {
			t.Fatalf("P10.3: character %x: %q, %d", r, b, why)
		}
	}
}

func TestPrintOfLength(t *testing.T) {
	long := strings.Repeat("a", api.MaxJson-2)
	prints(t, textOf(long), `"`+long+`"`)
	tooLong := func(what string, v api.Json) {
		t.Helper()
		if why := Check(v); why != api.OK {
			t.Errorf("P10.2: %s: %d", what, why)
		}
		if b, why := Print(v); why != api.ErrLong || len(b) != 0 {
			t.Errorf("P10.3: %s: %d bytes, %d", what, len(b), why)
		}
	}
	tooLong("one more", textOf(long+"a"))
	tooLong("an escape", textOf(long[1:]+"\n"))
	tooLong("an escape of six", textOf(long[5:]+"\x01"))
	prints(t, textOf(long[6:]+"\x01"), `"`+long[6:]+`\u0001"`)
	prints(t, textOf(long[2:]+"é"), `"`+long[2:]+`é"`)
	tooLong("a list around", listOf(textOf(long)))
	prints(t, listOf(textOf(long[2:])), `["`+long[2:]+`"]`)
	tooLong("a comma", listOf(textOf(long[3:]), numberOf("1")))
	prints(t, listOf(textOf(long[4:]), numberOf("1")), `["`+long[4:]+`",1]`)
	tooLong("a name", api.Json{Kind: api.JsonObject, Names: []string{long}, Items: []api.Json{numberOf("1")}})
	prints(t, api.Json{Kind: api.JsonObject, Names: []string{long[4:]}, Items: []api.Json{numberOf("1")}}, `{"`+long[4:]+`":1}`)
	digits := strings.Repeat("7", api.MaxJson)
	prints(t, numberOf(digits), digits)
	tooLong("a digit", numberOf(digits+"7"))
	tooLong("far more", listOf(slices.Repeat([]api.Json{textOf(long)}, 50)...))
	refuses(t, "a wrong value that is too long too", listOf(textOf(long), textOf(long), api.Json{}), api.ErrJson)
}

package json

import (
	"math/rand/v2"
	"slices"
	"strconv"
	"strings"
	"testing"
	"unicode/utf8"

	"thicket/api"
)

// someValue is any value, right or not.
func someValue(r *rand.Rand, deep int, right bool) api.Json {
	texts := []string{"", "a", "b", "é", "\n\x00", "x\"\\/", "\U0001f600", "long enough to be of more bytes"}
	numbers := []string{"0", "-1", "1.50", "1e5", "12345678901234567890", "-0E+0"}
	v := api.Json{Kind: api.JsonKind(1 + r.IntN(7))}
	if deep == 0 && v.Kind >= api.JsonList {
		v.Kind = api.JsonText
	}
	switch v.Kind {
	case api.JsonNumber:
		v.Text = numbers[r.IntN(len(numbers))]
	case api.JsonText:
		v.Text = texts[r.IntN(len(texts))]
	case api.JsonList, api.JsonObject:
		for i := range r.IntN(5) {
			v.Items = append(v.Items, someValue(r, deep-1, right))
			if v.Kind == api.JsonObject {
				v.Names = append(v.Names, texts[r.IntN(len(texts))]+strconv.Itoa(i))
			}
		}
	}
	if !right && r.IntN(4) == 0 {
		v = spoiled(r, v)
	}
	return v
}

func spoiled(r *rand.Rand, v api.Json) api.Json {
	switch r.IntN(5) {
	case 0:
		v.Kind = api.JsonKind(r.IntN(9))
	case 1:
		v.Text += []string{"x", "\xff", "0"}[r.IntN(3)]
	case 2:
		v.Names = append(v.Names, []string{"x", "\xff", "a0"}[r.IntN(3)])
	case 3:
		v.Items = append(v.Items, numberOf("1"), api.Json{})
	case 4:
		v.Items = v.Items[:len(v.Items)/2]
	}
	return v
}

// A value goes there and back; a text's Print is no longer than it; blanks change nothing but places; no shorter beginning is taken.
func TestThereAndBack(t *testing.T) {
	r := source()
	for range 3000 {
		v := someValue(r, 4, true)
		b, why := Print(v)
		if why != api.OK {
			t.Fatal("P10.3:", v, why)
		}
		again, why, _ := Parse(b)
		if why != api.OK || !equal(again, v) {
			t.Fatalf("P10.6: %v, by %q", v, b)
		}
		for _, s := range []string{rewritten(r, b, true), rewritten(r, b, false)} {
			w, ok := judged(t, []byte(s))
			if !ok || !equal(w, v) {
				t.Fatalf("P10.7: %q is not %q", s, b)
			}
			if c, why := Print(w); why != api.OK || string(c) != string(b) || len(c) > len(s) {
				t.Fatalf("P10.6: Print(Parse(%q)) = %q, %d", s, c, why)
			}
		}
		if v.Kind >= api.JsonText {
			shorter(t, b)
		}
	}
}

// shorter asks that every beginning of a text is refused at its end, or at the character that is cut off there.
func shorter(t *testing.T, b []byte) {
	t.Helper()
	for n := range b {
		want := n
		for want > 0 && !utf8.Valid(b[:want]) {
			want--
		}
		if _, why, at := Parse(b[:n]); why != api.ErrJson || at != want {
			t.Fatalf("P10.8: %q: %d at %d", b[:n], why, at)
		}
	}
}

// rewritten has blanks around values, names and marks; characters as escapes, if that is asked for too.
func rewritten(r *rand.Rand, b []byte, escapes bool) string {
	var s strings.Builder
	blanks := func() {
		for r.IntN(3) == 0 {
			s.WriteByte(" \t\n\r"[r.IntN(4)])
		}
	}
	within := false
	blanks()
	for i := 0; i < len(b); {
		c, n := utf8.DecodeRune(b[i:])
		switch {
		case within && c == '\\':
			if n = 2; b[i+1] == 'u' {
				n = 6
			}
			s.Write(b[i : i+n])
		case within && c != '"' && escapes && r.IntN(2) == 0:
			s.WriteString(escaped(r, c))
		case !within && strings.ContainsRune("[]{}:,", c):
			blanks()
			s.WriteRune(c)
			blanks()
		default:
			if c == '"' {
				within = !within
			}
			s.Write(b[i : i+n])
		}
		i += n
	}
	blanks()
	return s.String()
}

func escaped(r *rand.Rand, c rune) string {
	if c == '/' && r.IntN(2) == 0 {
		return `\/`
	}
	hex := func(c rune) string {
		s := strconv.FormatInt(0x10000+int64(c), 16)[1:]
		if r.IntN(2) == 0 {
			s = strings.ToUpper(s)
		}
		return `\u` + s
	}
	if c >= 0x10000 {
		c -= 0x10000
		return hex(0xd800+c>>10) + hex(0xdc00+c&0x3ff)
	}
	return hex(c)
}

// Texts with bytes changed, put in or left out.
func TestAnyBytes(t *testing.T) {
	r := source()
	told := make(map[api.Errno]int)
	pieces := []string{"[", "]", "{", "}", ",", ":", `"`, `\`, `\u`, "d83d", `\ud83d`, `\ude00`, "0", "1", "-", ".", "e", " ", "\n", "\x00", "\xff", "\xc3", "\xa9", "a", "b", "null", "true", `"a0":`, `"b1"`, "\u2028"}
	for range 30000 {
		b, _ := Print(someValue(r, 4, true))
		for range r.IntN(4) {
			at := r.IntN(len(b) + 1)
			switch r.IntN(4) {
			case 0:
				b = slices.Insert(b, at, []byte(pieces[r.IntN(len(pieces))])...)
			case 1:
				b = slices.Delete(b, at, min(len(b), at+1+r.IntN(3)))
			case 2:
				if at < len(b) {
					b[at] = byte(r.IntN(256))
				}
			case 3:
				from := r.IntN(at + 1)
				b = slices.Insert(b, r.IntN(len(b)+1), slices.Clone(b[from:at])...)
			}
		}
		judged(t, b)
		_, why, _ := Parse(b)
		told[why]++
	}
	for range 20000 {
		var s strings.Builder
		for range r.IntN(12) {
			s.WriteString(pieces[r.IntN(len(pieces))])
		}
		judged(t, []byte(s.String()))
	}
	if told[api.OK] < 1000 || told[api.ErrJson] < 1000 || told[api.ErrTwin] == 0 {
		t.Error("too few texts of a kind:", told)
	}
}

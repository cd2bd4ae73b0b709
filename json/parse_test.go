package json

import (
	"math/rand/v2"
	"strconv"
	"strings"
	"testing"
	"unicode/utf8"

	"thicket/api"
)

func source() *rand.Rand { return rand.New(rand.NewPCG(10, 10)) }

func word(kind api.JsonKind) api.Json { return api.Json{Kind: kind} }

func numberOf(s string) api.Json { return api.Json{Kind: api.JsonNumber, Text: s} }

func textOf(s string) api.Json { return api.Json{Kind: api.JsonText, Text: s} }

func listOf(l ...api.Json) api.Json { return api.Json{Kind: api.JsonList, Items: l} }

// objectOf has names a, b, .. of its items.
func objectOf(l ...api.Json) api.Json {
	v := api.Json{Kind: api.JsonObject, Items: l}
	for i := range l {
		v.Names = append(v.Names, string(rune('a'+i)))
	}
	return v
}

// says asks that a text is this value.
func says(t *testing.T, s string, want api.Json) {
	t.Helper()
	b := []byte(s)
	if v, why, at := Parse(b); why != api.OK || at != 0 || !equal(v, want) {
		t.Errorf("P10.1: Parse(%.100q) = %v, %d, %d", s, v, why, at)
	}
	if string(b) != s {
		t.Errorf("P10.5: %.100q is changed", s)
	}
	judged(t, b)
}

// fails asks that a text has this fault.
func fails(t *testing.T, s string, want api.Errno, place int) {
	t.Helper()
	if v, why, at := Parse([]byte(s)); why != want || at != place || !isNothing(v) {
		t.Errorf("P10.1: Parse(%.100q) = %v, %d at %d, not %d at %d", s, v, why, at, want, place)
	}
	if len(s) <= api.MaxJson {
		judged(t, []byte(s))
	}
}

func TestExamples(t *testing.T) {
	says(t, `[1, -0.5e+3, "a"]`, listOf(numberOf("1"), numberOf("-0.5e+3"), textOf("a")))
	says(t, " null ", word(api.JsonNull))
	for s, at := range map[string]int{"": 0, "nul": 3, "01": 1, "1.": 2, "[1,]": 3, `{"a":1,}`: 7, "1 2": 2, "+1": 0, `"\ud83d"`: 1, `"\ude00"`: 1, `"\u00g0"`: 5, "\"a\nb\"": 2} {
		fails(t, s, api.ErrJson, at)
	}
	says(t, `"\u0041\ud83d\ude00"`, textOf("A\U0001f600"))
	fails(t, `{"a":1,"b":2,"a":3}`, api.ErrTwin, 13)
	fails(t, strings.Repeat("[", 257), api.ErrDeep, 256)
}

func TestValues(t *testing.T) {
	for s, want := range map[string]api.Json{
		"null": word(api.JsonNull), "false": word(api.JsonFalse), "true": word(api.JsonTrue), "[]": listOf(), "{}": objectOf(), `""`: textOf(""), "[[]]": listOf(listOf()), `{"a":{}}`: objectOf(objectOf()),
		`{"a":[],"b":""}`: objectOf(listOf(), textOf("")), "[null,false,true,0]": listOf(word(api.JsonNull), word(api.JsonFalse), word(api.JsonTrue), numberOf("0")),
		`{"":0}`: {Kind: api.JsonObject, Names: []string{""}, Items: []api.Json{numberOf("0")}}, `["[",1]`: listOf(textOf("["), numberOf("1")), "[1,1,1]": listOf(numberOf("1"), numberOf("1"), numberOf("1")),
		"\t\n\r [\t\n\r 1\t\n\r ,\t\n\r 2\t\n\r ]\t\n\r ": listOf(numberOf("1"), numberOf("2")), " { \"a\" : 1 ,\n\"b\"\r:\t2 } ": objectOf(numberOf("1"), numberOf("2")),
	} {
		says(t, s, want)
	}
	// Blanks of other kinds are none.
	for _, c := range []string{"\v", "\f", "\x00", "\u00a0", "\u2028", "\ufeff", "\b", "\x85", "#", "//"} {
		fails(t, c+"1", api.ErrJson, 0)
		fails(t, "1"+c, api.ErrJson, 1)
		fails(t, "["+c+"1]", api.ErrJson, 1)
		fails(t, "[1"+c+"]", api.ErrJson, 2)
		fails(t, `{"a"`+c+`:1}`, api.ErrJson, 4)
		fails(t, `{"a":1,`+c+`"b":1}`, api.ErrJson, 7)
	}
}

// Numbers are kept as they are written.
func TestNumbers(t *testing.T) {
	long := strings.Repeat("9", 5000)
	for _, s := range []string{"0", "-0", "1", "-1", "10", "1234567890", "0.0", "-0.00", "0.10", "1.50", "1e5", "1E5", "1e+5", "1E-05", "0e0", "-0E-0", "1.5e300", "1e999999", "9007199254740993", "123.456e-789", long, "-" + long + "." + long + "e" + long} {
		says(t, s, numberOf(s))
		says(t, "["+s+","+s+" ]", listOf(numberOf(s), numberOf(s)))
		says(t, `{"a":`+s+"}", objectOf(numberOf(s)))
	}
	for s, at := range map[string]int{
		"-": 1, "+": 0, ".": 0, ".5": 0, "-.5": 1, "00": 1, "-00": 2, "-01": 2, "0x1": 1, "1.": 2, "1.e5": 2, "1..2": 2, "1.2.3": 3, "1e": 2, "1e+": 3, "1e-": 3, "1e+-1": 3, "1e5.0": 3, "1e5e5": 3, "--1": 1, "1-": 1, "1+1": 1, "1_0": 1, "1,0": 1, "1a": 1, "Infinity": 0, "NaN": 0, "nan": 1, "-inf": 1, "1E": 2, "1f": 1, "１": 0, "-\"": 1, "1.-": 2, "1.x": 2, "1ex": 2,
	} {
		fails(t, s, api.ErrJson, at)
		if s != "1,0" { // in a list the comma may stand there
			fails(t, "["+s, api.ErrJson, at+1)
			fails(t, `{"a":`+s, api.ErrJson, at+5)
		}
	}
}

// Words end too early, go on too long, or say something else at each place.
func TestWordsOfTheLanguage(t *testing.T) {
	for _, w := range []string{"null", "false", "true"} {
		for n := range len(w) {
			for _, around := range []string{"", "[", `[1,`, `{"a":`} {
				fails(t, around+w[:n], api.ErrJson, len(around)+n)
				if n > 0 {
					fails(t, around+w[:n]+" ", api.ErrJson, len(around)+n)
					fails(t, around+w[:n]+"x"+w[n:], api.ErrJson, len(around)+n)
					fails(t, around+w[:n]+strings.ToUpper(w[n:]), api.ErrJson, len(around)+n)
				}
			}
		}
		fails(t, w+"x", api.ErrJson, len(w))
		fails(t, w+w, api.ErrJson, len(w))
		fails(t, strings.ToUpper(w), api.ErrJson, 0)
		fails(t, "{"+w+":1}", api.ErrJson, 1)
	}
}

// Faults of marks, at the beginning, in the middle and at the end.
func TestMarks(t *testing.T) {
	for s, at := range map[string]int{
		" ": 1, "]": 0, "}": 0, ",": 0, ":": 0, "[": 1, "{": 1, "[ ": 2, "[]]": 2, "{}}": 2, "[}": 1, "{]": 1, "[,": 1, "[,1]": 1, "[1,,2]": 3, "[1": 2, "[1,": 3, "[1, ": 4, "[1 2]": 3, "[1}": 2, "[1:2]": 2, `["a":1]`: 4, "{1:2}": 1, "{a:1}": 1, `{"a"`: 4, `{"a" `: 5, `{"a"}`: 4, `{"a",1}`: 4, `{"a":`: 5, `{"a":}`: 5, `{"a":,}`: 5,
		`{"a":1`: 6, `{"a":1,`: 7, `{"a":1 "b":2}`: 7, `{"a":1,2}`: 7, `{"a":1,,}`: 7, `{"a":1]`: 6, `{"a"::1}`: 5, `{,}`: 1, `{:1}`: 1, "[[]": 3, "[[[1]]": 6, "[] []": 3, `"a""b"`: 3, `"a" : 1`: 4, "[1]x": 3, "{} ,": 3, "'a'": 0, "[1]\x00": 3, `{"a":1};`: 7, `{null:1}`: 1, `{["a"]:1}`: 1, `{"a":1, }`: 8, "[1 , ]": 5,
	} {
		fails(t, s, api.ErrJson, at)
	}
}

// deep is a value within so many lists and objects: which ones, says the text, again and again.
func deep(kinds string, many int, inner string) string {
	var open, shut string
	for i := range many {
		if kinds[i%len(kinds)] == '[' {
			open, shut = open+"[", "]"+shut
		} else {
			open, shut = open+`{"a":`, "}"+shut
		}
	}
	return open + inner + shut
}

func TestDepth(t *testing.T) {
	for _, kinds := range []string{"[", "{", "[{", "{[[", "[[[[[[[{"} {
		for _, inner := range []string{"1", `"[[[[{{"`} {
			if _, ok := judged(t, []byte(deep(kinds, api.MaxNest, inner))); !ok {
				t.Errorf("P10.1: %s, MaxNest deep", kinds)
			}
		}
		for _, more := range []string{"[", "{"} {
			s := deep(kinds, api.MaxNest, "?")
			at := strings.Index(s, "?")
			fails(t, strings.Replace(s, "?", more, 1), api.ErrDeep, at)
			fails(t, s[:at]+more, api.ErrDeep, at)
			fails(t, s[:at]+" \n"+more+"?", api.ErrDeep, at+2)
			fails(t, s[:at]+"1"+more, api.ErrJson, at+1)
			fails(t, s[:at-1]+more, api.ErrJson, at-1+strings.Count(s[at-1:at], "[")) // where it may not stand, or lies just deep enough
		}
	}
	side := strings.Repeat("[],", 1000) + deep("[", api.MaxNest-1, "")
	if _, ok := judged(t, []byte("["+side+","+side+"]")); !ok {
		t.Error("P10.1: lists beside one another are no deeper")
	}
	fails(t, "["+side+",["+deep("{", api.MaxNest-1, "1"), api.ErrDeep, len(side)+3+5*(api.MaxNest-2))
	fails(t, strings.Repeat("[", 1<<20), api.ErrDeep, api.MaxNest)
	fails(t, strings.Repeat(`{"a":`, 1<<20), api.ErrDeep, 5*api.MaxNest)
}

func TestTwins(t *testing.T) {
	for s, at := range map[string]int{
		`{"a":1,"a":1}`: 7, `{"":1,"":2}`: 6, `{"a":1, "a":1}`: 8, `{"a":{"b":1,"b":2}}`: 12, `[{"a":1},{"a":1,"b":2,"b":3,"a":4}]`: 22, `{"a":1,"\u0061":2}`: 7, `{"\u0061":1,"a":2}`: 12, `{"/":1,"\/":2}`: 7, `{"\n":1,"\u000a":2}`: 8, `{"\ud83d\ude00":1,"😀":2}`: 18, `{"\u00e9":1,"é":2}`: 12,
		`{"a":1,"a"`: 7, `{"a":1,"a"x`: 7, `{"a":1,"a":?`: 7, `{"a":[],"b":{},"a"`: 15, `{"x":{"a":1},"a":2,"x":3}`: 19, "{\"a\x7f\":1,\"a\\u007f\":2}": 8, `{"\"":1,"\u0022":1}`: 8,
	} {
		fails(t, s, api.ErrTwin, at)
	}
	// What is wrong within the name, or ahead of it, comes first; a name that only begins alike is another.
	for s, at := range map[string]int{`{"a":1,"a`: 9, `{"a":1,"a\`: 10, `{"a":1,"a\x":1}`: 10, "{\"a\":1,\"a\n\":2}": 9, `{"a":1 "a":2}`: 7, `{"a":1,a":2}`: 7, `{"a":1,"a\ud800":2}`: 9} {
		fails(t, s, api.ErrJson, at)
	}
	for _, s := range []string{`{"a":1,"A":2}`, `{"a":{"a":{"a":1}}}`, `[{"a":1},{"a":1}]`, `{"a":1,"a ":2," a":3,"":4}`, `{"a":"a","b":"a"}`, "{\"\u00e9\":1,\"e\u0301\":2}", `{"a":1,"aa":2,"aaa":3}`, `{"\\u0061":1,"a":2}`} {
		if _, ok := judged(t, []byte(s)); !ok {
			t.Error("P10.1: no twins:", s)
		}
	}
	var b strings.Builder
	for i := range 100000 {
		b.WriteString(`"` + strconv.Itoa(i) + `":0,`)
	}
	fails(t, "{"+b.String()+`"77777":0}`, api.ErrTwin, 1+b.Len())
	if _, ok := judged(t, []byte("{"+b.String()+`"x":0}`)); !ok {
		t.Error("P10.1: many names")
	}
}

func TestEscapes(t *testing.T) {
	says(t, `"\"\\\/\b\f\n\r\t"`, textOf("\"\\/\b\f\n\r\t"))
	says(t, `"\u0000\u001f\u007F\u00e9\uFFFD\uffff\uABCD\uabcd"`, textOf("\x00\x1f\x7f\u00e9\ufffd\uffff\uabcd\uabcd"))
	says(t, `"\\u0041\\"`, textOf(`\u0041\`))
	says(t, `"\u00411"`, textOf("A1"))
	for c := range 256 {
		s := `"a\` + string([]byte{byte(c)})
		if strings.IndexByte(`"\/bfnrtu`, byte(c)) < 0 {
			fails(t, s+`0000"`, api.ErrJson, 3)
			fails(t, s, api.ErrJson, 3)
			fails(t, "["+s, api.ErrJson, 4)
		} else {
			fails(t, s, api.ErrJson, 4)
		}
		if c < 0x20 {
			fails(t, `"a`+string([]byte{byte(c)})+`"`, api.ErrJson, 2)
			fails(t, `"`+string([]byte{byte(c)}), api.ErrJson, 1)
			fails(t, `{"é`+string([]byte{byte(c)})+`":1}`, api.ErrJson, 4)
		}
		// A byte in the place of each of four digits.
		for n := range 4 {
			s := `"\u` + "00e9"[:n] + string([]byte{byte(c)}) + "0000"[n+1:] + `"`
			if strings.IndexByte("0123456789abcdefABCDEF", byte(c)) < 0 {
				fails(t, s, api.ErrJson, 3+n)
				fails(t, `"\ud800`+s[1:], api.ErrJson, 9+n)
			} else {
				judged(t, []byte(s))
				judged(t, []byte(`"\ud800`+s[1:]))
			}
		}
	}
	for n := range 7 {
		fails(t, `"\u00e9`[:1+n], api.ErrJson, 1+n)
	}
}

// Every number of a character, and every half.
func TestCodes(t *testing.T) {
	for code := range 1 << 16 {
		hex := strconv.FormatInt(0x10000+int64(code), 16)[1:]
		if code%3 == 0 {
			hex = strings.ToUpper(hex)
		}
		switch s := `"\u` + hex + `"`; {
		case code >= 0xd800 && code <= 0xdfff:
			fails(t, s, api.ErrJson, 1)
			fails(t, `["`+"é"+s[1:], api.ErrJson, 4)
		default:
			if v, why, _ := Parse([]byte(s)); why != api.OK || v.Text != string(rune(code)) {
				t.Fatalf("P10.1: %s: %d, %q", s, why, v.Text)
			}
		}
	}
	for first := 0xd800; first < 0xdc00; first += 31 {
		for second := 0xdc00; second < 0xe000; second += 31 {
			s := `"\u` + strconv.FormatInt(int64(first), 16) + `\u` + strconv.FormatInt(int64(second), 16) + `"`
			if v, why, _ := Parse([]byte(s)); why != api.OK || v.Text != string(rune(0x10000+(first-0xd800)*0x400+second-0xdc00)) {
				t.Fatalf("P10.1: %s: %d, %q", s, why, v.Text)
			}
		}
	}
	says(t, `"\uD800\uDC00\uDBFF\uDFFF\ud7ff\ue000"`, textOf("\U00010000\U0010ffff\ud7ff\ue000"))
}

// Halves alone, in the wrong order, with something between, and what ends ahead of the other half.
func TestHalves(t *testing.T) {
	for s, at := range map[string]int{
		`"\ud83d"`: 1, `"\ud83dx`: 1, `"\ud83d `: 1, "\"\\ud83d\n": 1, "\"\\ud83d\xff": 1, `"\ud83d\n`: 1, `"\ud83d\\ude00"`: 1, `"\ud83d\x`: 1, `"\ud83d\U`: 1, `"\ud83d\"`: 1, `"\ud83d\u0041"`: 1, `"\ud83d\ud83d`: 1, `"\ud83d\ud83d\ude00"`: 1, `"\ud83d\ue000"`: 1, `"\ud83d\udbff"`: 1, `"\ud83d\u0000`: 1,
		`"ab\ude00\ud83d"`: 3, `"\ude00`: 1, `"\udc00x`: 1, `"\udfff"`: 1, `"\udbff"`: 1, `"\ud83d\ude00\ude00"`: 13, `"\ud83d\ude00\ud83d"`: 13, `["x","\ud83d"]`: 6, `{"\ud83d":1}`: 2, `{"a":1,"\ude00":1}`: 8,
		`"\ud83d`: 7, `"\ud83d\`: 8, `"\ud83d\u`: 9, `"\ud83d\ud`: 10, `"\ud83d\ude`: 11, `"\ud83d\ude0`: 12, `"\ud83d\ude00`: 13, `"\ud83d\u0`: 10, `"\ud83d\u004`: 12, `"\ud83`: 6, `"\ude0`: 6,
		`"\ud83d\ug`: 9, `"\ud83d\u0g`: 10, `"\ud83d\u00g`: 11, `"\ud83d\u004g`: 12, `"\ud83d\ude0g"`: 12, `"\ud83d\ude0"`: 12, `"\ud83d\u"`: 9, `"\ud83g`: 6, `"\ude0"`: 6, "\"\\ud83d\\u\x00": 9, "\"\\ud83d\\ude0\xff": 12,
	} {
		fails(t, s, api.ErrJson, at)
	}
}

// Characters: each byte behind each first one; what is cut off at the end of all, or of the text.
func TestCharacters(t *testing.T) {
	for first := 0x20; first < 256; first++ {
		for second := range 256 {
			for _, rest := range []string{"", "\x80", "\xbf\x80", "\"", "\x80\x80\x80\"", "\x7f\"", "\xc0\"", "\x80\""} {
				judged(t, []byte("[\"é"+string([]byte{byte(first), byte(second)})+rest))
			}
		}
	}
	for _, r := range []rune{0x20, 0x7e, 0x7f, 0x80, 0x7ff, 0x800, 0xd7ff, 0xe000, 0xfffd, 0xfffe, 0xffff, 0x10000, 0x10ffff, 0x2028, 0xfeff} {
		c := string(r)
		says(t, `"`+c+`"`, textOf(c))
		says(t, `{"`+c+`":"x`+c+`"}`, api.Json{Kind: api.JsonObject, Names: []string{c}, Items: []api.Json{textOf("x" + c)}})
		for n := 1; n < utf8.RuneLen(r); n++ {
			fails(t, `"ab`+c[:n], api.ErrJson, 3)
			fails(t, `"ab`+c[:n]+`"`, api.ErrJson, 3)
			fails(t, `{"`+c[:n]+`":1}`, api.ErrJson, 2)
			fails(t, `["`+c+c[n:]+`"]`, api.ErrJson, 2+len(c))
		}
	}
	for _, c := range []string{"\x80", "\xbf", "\xc0\x80", "\xc1\xbf", "\xe0\x80\x80", "\xe0\x9f\xbf", "\xed\xa0\x80", "\xed\xbf\xbf", "\xf0\x8f\xbf\xbf", "\xf4\x90\x80\x80", "\xf5\x80\x80\x80", "\xff", "\xfe", "\xf8\x88\x80\x80\x80"} {
		fails(t, `"x`+c+`"`, api.ErrJson, 2)
		fails(t, `{"`+c+`":1}`, api.ErrJson, 2)
		fails(t, c, api.ErrJson, 0)
	}
}

func TestLength(t *testing.T) {
	long := strings.Repeat("a", api.MaxJson-2)
	for _, s := range []string{`"` + long + `"`, strings.Repeat(" ", api.MaxJson-1) + "1", "1" + strings.Repeat("\n", api.MaxJson-1), strings.Repeat("9", api.MaxJson)} {
		if v, why, at := Parse([]byte(s)); len(s) != api.MaxJson || why != api.OK || at != 0 || v.Kind == api.JsonNone {
			t.Errorf("P10.1: MaxJson bytes: %d at %d", why, at)
		}
		for _, more := range []string{" ", "x", "\xff", `"`, "]"} {
			fails(t, s+more, api.ErrLong, 0)
			fails(t, more+s, api.ErrLong, 0)
		}
	}
	if v, why, _ := Parse([]byte(`"` + long + `"`)); why != api.OK || v.Text != long {
		t.Error("P10.1: a long text")
	}
	fails(t, `"`+long+"a", api.ErrJson, api.MaxJson)
	fails(t, "?"+long, api.ErrJson, 0)
	fails(t, strings.Repeat("[", api.MaxJson+1), api.ErrLong, 0)
	if _, why, at := Parse(nil); why != api.ErrJson || at != 0 {
		t.Error("P10.1: nil:", why, at)
	}
}

// allTexts calls try with each text of at most n of these bytes behind a beginning.
func allTexts(begin, bytes string, n int, try func([]byte)) {
	var grow func(b []byte, n int)
	grow = func(b []byte, n int) {
		try(b)
		if n > 0 {
			for i := range len(bytes) {
				grow(append(b[:len(b):len(b)], bytes[i]), n-1)
			}
		}
	}
	grow([]byte(begin), n)
}

func TestAllShortTexts(t *testing.T) {
	try := func(b []byte) { judged(t, b) }
	allTexts("", "[]{}:,\"1 ", 5, try)
	allTexts("", "01-+.eE ", 6, try)
	allTexts(`"`, "\"\\u0dcC8n\xc3\xa9", 4, try)
	allTexts(`"\ud`, "8dc0\\u\"", 5, try)
	allTexts(`"\ud800\u`, "dcC09g\"", 5, try)
	allTexts(`{"`, `a":1,{}`, 6, try)
	allTexts(`{"a":1,`, `"a:1}`, 7, try)
	allTexts("", "nulltruefas", 4, try)
}

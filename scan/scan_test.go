package scan

import (
	"math"
	"regexp"
	"slices"
	"strings"
	"testing"
	"unicode/utf8"

	"thicket/api"
)

func row(number, at int, s string) api.Row { return api.Row{Number: number, At: at, Text: s} }

func TestRowsExamples(t *testing.T) {
	for s, want := range map[string][]api.Row{
		"": nil, "a": {row(1, 0, "a")}, "a\n": {row(1, 0, "a")}, "a\r": {row(1, 0, "a")}, "a\r\n": {row(1, 0, "a")}, "\n": {row(1, 0, "")}, "\r\n": {row(1, 0, "")},
		"a\r\nb\n\nc":                   {row(1, 0, "a"), row(2, 3, "b"), row(3, 5, ""), row(4, 6, "c")},
		"\n\r":                          {row(1, 0, ""), row(2, 1, "")},
		"\r\r\n\n":                      {row(1, 0, ""), row(2, 1, ""), row(3, 3, "")},
		"a\rb\n\rc":                     {row(1, 0, "a"), row(2, 2, "b"), row(3, 4, ""), row(4, 5, "c")},
		" \x00\xff\v\f\u0085\u2028\n\t": {row(1, 0, " \x00\xff\v\f\u0085\u2028"), row(2, 11, "\t")},
	} {
		if l := Rows(s); !slices.Equal(l, want) {
			t.Errorf("3.1: Rows(%q) = %v", s, l)
		}
	}
}

var oneEnd = regexp.MustCompile("\r\n|\r|\n")

// rowsByPattern cuts a text by a pattern alone.
func rowsByPattern(s string) []api.Row {
	var l []api.Row
	at := 0
	for _, end := range oneEnd.FindAllStringIndex(s, -1) {
		l = append(l, api.Row{Number: len(l) + 1, At: at, Text: s[at:end[0]]})
		at = end[1]
	}
	if at < len(s) {
		l = append(l, api.Row{Number: len(l) + 1, At: at, Text: s[at:]})
	}
	return l
}

func TestRowsOfAnyTexts(t *testing.T) {
	r := source()
	try := func(s string) {
		l := Rows(s)
		if !slices.Equal(l, rowsByPattern(s)) {
			t.Fatalf("3.1: Rows(%q) = %v", s, l)
		}
		again := Rows(withFeeds(l))
		if len(again) != len(l) {
			t.Fatalf("3.9: %d lines of %q, then %d", len(l), s, len(again))
		}
		for i := range l {
			if again[i].Number != l[i].Number || again[i].Text != l[i].Text {
				t.Fatalf("3.9: line %d of %q: %v, then %v", i, s, l[i], again[i])
			}
		}
	}
	allTexts("a\r\n", 8, try)
	for range 5000 {
		try(someText(r, 20, []string{"a", "long enough to be more than some bytes", "\r", "\n", "\r\n", "\xff", "é", " ", "#"}))
	}
}

// withFeeds are lines, each with an LF behind.
func withFeeds(l []api.Row) string {
	var b strings.Builder
	for _, row := range l {
		b.WriteString(row.Text + "\n")
	}
	return b.String()
}

func TestRowsMemory(t *testing.T) {
	s := strings.Clone("first\nsecond\r\nthird")
	l := Rows(s)
	for _, row := range l {
		if !apart(row.Text, s) {
			t.Error("3.5: a line is a piece of the text:", row)
		}
	}
	l[0].Text = "changed"
	if again := Rows(s); again[0].Text != "first" || len(again) != 3 {
		t.Error("3.5: an answer is kept:", again)
	}
	long := strings.Clone(strings.Repeat("x", 3*api.MaxLine))
	if l := Rows(long); len(l) != 1 || l[0].Text != long || !apart(l[0].Text, long) {
		t.Error("3.1: a line may be of any length")
	}
}

func TestQuoteExamples(t *testing.T) {
	for s, want := range map[string]string{
		"": `""`, "a\"\n\x00": `"a\"\n\x00"`, `\`: `"\\"`, "\t\r": `"\t\x0d"`, "\x1f\x7f\x80\xff": "\"\\x1f\\x7f\x80\xff\"", " ~é#'": `" ~é#'"`, "\x0b\x1b\x10": `"\x0b\x1b\x10"`,
	} {
		if q := Quote(s); q != want {
			t.Errorf("3.4: Quote(%q) = %s", s, q)
		}
	}
	for c := range 256 {
		q := Quote(string([]byte{byte(c)}))
		asItIs := c >= 0x20 && c != 0x7f && c != '"' && c != '\\'
		escaped := c == '"' || c == '\\' || c == '\n' || c == '\t'
		if asItIs != (len(q) == 3) || escaped != (len(q) == 4) || !asItIs && !escaped && len(q) != 6 {
			t.Errorf("3.4: Quote of the byte %x: %s", c, q)
		}
	}
	s := strings.Clone("plain")
	if !apart(Quote(s), s) {
		t.Error("3.5: Quote")
	}
}

func TestName(t *testing.T) {
	for s, want := range map[string]bool{
		"": false, "a": true, "a-1.x_": true, "a b": false, "-": true, ".": true, "9": true, "_": true, "..": true, "a+": false, "é": false, "a\n": false, " a": false, "a ": false, "a\x00": false, "\xff": false, "a/b": false,
		strings.Repeat("n", api.MaxName): true, strings.Repeat("n", api.MaxName+1): false, strings.Repeat("n", api.MaxName-1) + "!": false, strings.Repeat("n", 1<<20): false,
	} {
		if Name(s) != want {
			t.Errorf("3.4: Name(%.70q) = %v", s, !want)
		}
	}
	pattern := regexp.MustCompile(`^[A-Za-z0-9_.\-]$`)
	for c := range 256 {
		if s := string([]byte{byte(c)}); Name(s) != pattern.MatchString(s) || Name("a"+s) != Name(s) {
			t.Errorf("3.4: Name of the byte %x", c)
		}
	}
}

func TestBlank(t *testing.T) {
	for line, want := range map[string]bool{
		"": true, " ": true, "\t": true, " \t# a": true, "#": true, "#x": true, "  #\xff\n": true, "x": false, " x": false, "x#": false, "\n": false, " \r": false, "\v": false, "\f#": false, "\u00a0": false, "\x00": false, `"#"`: false, "\xff": false, " . ": false, "\x85": false,
		strings.Repeat(" ", 1<<20): true, strings.Repeat(" ", 1<<20) + "x": false,
	} {
		if Blank(line) != want {
			t.Errorf("3.4: Blank(%.70q) = %v", line, !want)
		}
	}
	allTexts("a \t#\"\n", 4, func(line string) {
		l, why, _ := Words(line)
		if none := why == api.OK && len(l) == 0; Blank(line) != none {
			t.Fatalf("3.4: Blank(%q), and Words: %v, %d", line, l, why)
		}
	})
}

func TestColumnExamples(t *testing.T) {
	for _, c := range []struct {
		line     string
		at, want int
	}{
		{"aéb", 3, 3}, {"\xff\xffb", 2, 3}, {"abc", 99, 4}, {"", 0, 1}, {"", 5, 1}, {"", -5, 1}, {"abc", 0, 1}, {"abc", 1, 2}, {"abc", 3, 4}, {"abc", 4, 4}, {"abc", -1, 1}, {"abc", math.MinInt, 1}, {"abc", math.MaxInt, 4},
		{"aéb", 1, 2}, {"aéb", 2, 3}, {"aéb", 4, 4}, {"€", 1, 2}, {"€", 2, 2}, {"€", 3, 2}, {"\xe2\x82", 1, 2}, {"\xe2\x82", 2, 3}, {"\xe2\x82x", 3, 4}, {"\xc0\x80", 2, 3}, {"\xed\xa0\x80", 3, 4}, {"\xf4\x90\x80\x80", 4, 5}, {"\U0010ffff", 4, 2}, {"\U0001f600x", 4, 2}, {"\ufffd", 3, 2}, {"\ufffd\xff", 4, 3}, {"e\u0301", 3, 3}, {"\t\r\n\x00", 4, 5},
	} {
		if got := Column(c.line, c.at); got != c.want {
			t.Errorf("3.4: Column(%q, %d) = %d, not %d", c.line, c.at, got, c.want)
		}
	}
}

func TestColumnOfAnyLines(t *testing.T) {
	r := source()
	for range 5000 {
		line := someText(r, 8, []string{"a", "é", "€", "\U0001f600", "\xff", "\xe2", "\x82", "\xac", "\xf0", "\xc3"})
		column := 1
		begins := 0
		for at := range len(line) {
			if got := Column(line, at); got != column {
				t.Fatalf("3.4: Column(%q, %d) = %d, not %d", line, at, got, column)
			}
			if at == begins {
				_, n := utf8.DecodeRuneInString(line[at:])
				begins += n
				column++
			}
		}
		if got := Column(line, len(line)); got != column {
			t.Fatalf("3.4: Column(%q, its length) = %d, not %d", line, got, column)
		}
	}
}

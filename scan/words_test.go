package scan

import (
	"math/rand/v2"
	"regexp"
	"slices"
	"strings"
	"testing"
	"unsafe"

	"thicket/api"
)

func source() *rand.Rand { return rand.New(rand.NewPCG(5, 6)) }

// someText is put together of at most n of these pieces.
func someText(r *rand.Rand, n int, pieces []string) string {
	var b strings.Builder
	for range r.IntN(n + 1) {
		b.WriteString(pieces[r.IntN(len(pieces))])
	}
	return b.String()
}

// allTexts calls try with each text of at most n of these bytes.
func allTexts(bytes string, n int, try func(string)) {
	var grow func(string)
	grow = func(s string) {
		try(s)
		if len(s) < n {
			for i := range len(bytes) {
				grow(s + bytes[i:i+1])
			}
		}
	}
	grow("")
}

// apart tells whether an answered text shares no memory with what was handed in.
func apart(answer, given string) bool {
	if answer == "" || given == "" {
		return true
	}
	a, g := uintptr(unsafe.Pointer(unsafe.StringData(answer))), uintptr(unsafe.Pointer(unsafe.StringData(given)))
	return a+uintptr(len(answer)) <= g || g+uintptr(len(given)) <= a
}

var (
	oneName   = regexp.MustCompile(`^[A-Za-z_][A-Za-z0-9_.\-]*`)
	oneNumber = regexp.MustCompile(`^[0-9+\-.][A-Za-z0-9_+\-.]*`)
	oneMark   = regexp.MustCompile(`^(?:<=|>=|!=|[,:;=<>()\[\]{}|])`)
	oneQuoted = regexp.MustCompile(`^"(?:[^\x00-\x1f\x7f"\\]|\\["\\nt]|\\x[0-9a-fA-F]{2})*"`)
	openQuote = regexp.MustCompile(`^"(?:[^\x00-\x1f\x7f"\\]|\\["\\nt]|\\x[0-9a-fA-F]{2})*(?:\\(?:x[0-9a-fA-F]?)?)?`)
	oneEscape = regexp.MustCompile(`\\(?:x..|.)`)
)

// wordsByPattern cuts a line by patterns alone.
func wordsByPattern(line string) ([]api.Word, api.Errno, int) {
	var l []api.Word
	for at := 0; at < len(line) && line[at] != '#'; {
		rest := line[at:]
		w := api.Word{At: at}
		switch {
		case rest[0] == ' ' || rest[0] == '\t':
			at++
			continue
		case oneName.MatchString(rest):
			w.Kind, w.Text = api.WordName, oneName.FindString(rest)
		case oneNumber.MatchString(rest):
			w.Kind, w.Text = api.WordNumber, oneNumber.FindString(rest)
		case oneMark.MatchString(rest):
			w.Kind, w.Text = api.WordMark, oneMark.FindString(rest)
		case oneQuoted.MatchString(rest):
			text := oneQuoted.FindString(rest)
			at += len(text)
			w.Kind, w.Text = api.WordText, saidByPattern(text[1:len(text)-1])
		case rest[0] == '"':
			return nil, api.ErrQuote, at + len(openQuote.FindString(rest))
		default:
			return nil, api.ErrByte, at
		}
		if len(w.Text) > api.MaxLine {
			return nil, api.ErrLong, w.At
		}
		if w.Kind != api.WordText {
			at += len(w.Text)
		}
		l = append(l, w)
	}
	return l, api.OK, 0
}

func saidByPattern(s string) string {
	return oneEscape.ReplaceAllStringFunc(s, func(e string) string {
		switch e[1] {
		case 'n':
			return "\n"
		case 't':
			return "\t"
		case 'x':
			n := 0
			for _, c := range strings.ToLower(e[2:]) {
				n = n*16 + strings.IndexRune("0123456789abcdef", c)
			}
			return string([]byte{byte(n)})
		}
		return e[1:]
	})
}

// holdsWords tells whether Words answers of a line what the patterns do.
func holdsWords(t *testing.T, line string) {
	t.Helper()
	l, why, at := Words(line)
	wantL, wantWhy, wantAt := wordsByPattern(line)
	if !slices.Equal(l, wantL) || why != wantWhy || at != wantAt {
		t.Fatalf("3.2: Words(%.60q) = %.200v, %d, %d; not %.200v, %d, %d", line, l, why, at, wantL, wantWhy, wantAt)
	}
}

func name(at int, s string) api.Word   { return api.Word{Kind: api.WordName, Text: s, At: at} }
func number(at int, s string) api.Word { return api.Word{Kind: api.WordNumber, Text: s, At: at} }
func text(at int, s string) api.Word   { return api.Word{Kind: api.WordText, Text: s, At: at} }
func marked(at int, s string) api.Word { return api.Word{Kind: api.WordMark, Text: s, At: at} }

func TestWordsExamples(t *testing.T) {
	for line, want := range map[string][]api.Word{
		"": nil, " \t ": nil, "#": nil, "\t# a\x00\xff\"\n!": nil, "a#\"": {name(0, "a")},
		"split age<=-0.5 # x": {name(0, "split"), name(6, "age"), marked(9, "<="), number(11, "-0.5")},
		"1e+5,x":              {number(0, "1e+5"), marked(4, ","), name(5, "x")},
		`"a\x41\n"`:           {text(0, "aA\n")},
		"a-b.c_9+1":           {name(0, "a-b.c_9"), number(7, "+1")},
		"9a_b-c.d+e\"\"":      {number(0, "9a_b-c.d+e"), text(10, "")},
		"_ - . + 0":           {name(0, "_"), number(2, "-"), number(4, "."), number(6, "+"), number(8, "0")},
		"<<=>>==!==":          {marked(0, "<"), marked(1, "<="), marked(3, ">"), marked(4, ">="), marked(6, "="), marked(7, "!="), marked(9, "=")},
		",:;()[]{}|":          {marked(0, ","), marked(1, ":"), marked(2, ";"), marked(3, "("), marked(4, ")"), marked(5, "["), marked(6, "]"), marked(7, "{"), marked(8, "}"), marked(9, "|")},
		`"#"#"`:               {text(0, "#")},
		`"a""b"c`:             {text(0, "a"), text(3, "b"), name(6, "c")},
		`"\"\\\t\xaB\x00"`:    {text(0, "\"\\\t\xab\x00")},
		"\" ~\x80\xffé\"":     {text(0, " ~\x80\xffé")},
	} {
		l, why, at := Words(line)
		if !slices.Equal(l, want) || why != api.OK || at != 0 {
			t.Errorf("3.2: Words(%q) = %v, %d, %d", line, l, why, at)
		}
		holdsWords(t, line)
	}
}

func TestWordsFaults(t *testing.T) {
	for line, want := range map[string]struct {
		why api.Errno
		at  int
	}{
		"a!b": {api.ErrByte, 1}, "!": {api.ErrByte, 0}, "a !": {api.ErrByte, 2}, "a ! =": {api.ErrByte, 2}, "a\x00": {api.ErrByte, 1}, "a\n": {api.ErrByte, 1}, "\r": {api.ErrByte, 0}, "\x7f": {api.ErrByte, 0}, "a é": {api.ErrByte, 2}, "a\u00a0b": {api.ErrByte, 1}, "\xff": {api.ErrByte, 0}, "a\v": {api.ErrByte, 1}, "x*y": {api.ErrByte, 1}, "a'": {api.ErrByte, 1}, "@": {api.ErrByte, 0}, "\\": {api.ErrByte, 0},
		`"ab`: {api.ErrQuote, 3}, `"a\q"`: {api.ErrQuote, 3}, `"\x4"`: {api.ErrQuote, 4}, `"`: {api.ErrQuote, 1}, `a "`: {api.ErrQuote, 3}, `"\`: {api.ErrQuote, 2}, `"\"`: {api.ErrQuote, 3}, `"\x`: {api.ErrQuote, 3}, `"\x4`: {api.ErrQuote, 4}, `"\x41`: {api.ErrQuote, 5}, `"\xg1"`: {api.ErrQuote, 3}, `"\x1G"`: {api.ErrQuote, 4}, `"\X41"`: {api.ErrQuote, 2}, `"\N"`: {api.ErrQuote, 2}, `"\r"`: {api.ErrQuote, 2}, "\"a\tb\"": {api.ErrQuote, 2}, "\"\n\"": {api.ErrQuote, 1}, "\"\x7f\"": {api.ErrQuote, 1}, "\"\x1f": {api.ErrQuote, 1}, "\"\\\xff\"": {api.ErrQuote, 2}, "\"\\x\x10\x11\"": {api.ErrQuote, 3}, "\"\\x`1\"": {api.ErrQuote, 3}, "\"\\x1@\"": {api.ErrQuote, 4},
		`"a" "b" ! "`: {api.ErrByte, 8}, `"\q" !`: {api.ErrQuote, 2}, `! "`: {api.ErrByte, 0}, `"#`: {api.ErrQuote, 2},
	} {
		l, why, at := Words(line)
		if len(l) != 0 || why != want.why || at != want.at {
			t.Errorf("3.2: Words(%q) = %v, %d, %d", line, l, why, at)
		}
		holdsWords(t, line)
	}
}

func TestWordsOfEachByte(t *testing.T) {
	for c := range 256 {
		s := string([]byte{byte(c)})
		for _, line := range []string{s, "a" + s, "1" + s, s + "a", s + "=", "=" + s, `"` + s + `"`, `"\` + s + `"`, `"\x0` + s + `"`, `"\x` + s + `0"`, "#" + s, `"` + s} {
			holdsWords(t, line)
		}
	}
}

func TestWordsOfAnyLines(t *testing.T) {
	allTexts("a1+.!=<\"\\xn# \xff", 4, func(line string) { holdsWords(t, line) })
	allTexts("\"\\xfn0", 6, func(line string) { holdsWords(t, `"`+line) })
	r := source()
	pieces := []string{"a", "Zz", "_", "0", "9.5", "-", "+", ".", "e+5", "<", "<=", ">=", "!=", "=", ",", "|", "{", "[", `"`, `"a b"`, `"\""`, `"\\"`, `"\x7F"`, `"\n"`, `\`, `\x`, " ", "\t", "  "}
	for range 50000 {
		line := someText(r, 12, pieces)
		if r.IntN(5) == 0 {
			line += string([]byte{byte(r.IntN(256))}) + someText(r, 4, pieces)
		}
		holdsWords(t, line)
	}
}

func TestWordsLong(t *testing.T) {
	for _, line := range []string{strings.Repeat("a", api.MaxLine), strings.Repeat("1", api.MaxLine), "x " + Quote(strings.Repeat("a", api.MaxLine)) + " y", `"` + strings.Repeat(`\x41`, api.MaxLine) + `"`, "#" + strings.Repeat("x", api.MaxLine+1), strings.Repeat("a ", api.MaxLine), strings.Repeat(" ", api.MaxLine+1), strings.Repeat("=", api.MaxLine+1)} {
		if _, why, at := Words(line); why != api.OK || at != 0 {
			t.Errorf("3.2: Words of %d bytes: %d, %d", len(line), why, at)
		}
		holdsWords(t, line)
	}
	long := strings.Repeat("a", api.MaxLine+1)
	for line, want := range map[string]struct {
		why api.Errno
		at  int
	}{
		long: {api.ErrLong, 0}, "b " + long: {api.ErrLong, 2}, "b 1" + long: {api.ErrLong, 2}, "b" + Quote(long): {api.ErrLong, 1}, `"` + strings.Repeat(`\x41`, api.MaxLine+1) + `"`: {api.ErrLong, 0}, "=" + long + "!": {api.ErrLong, 1}, "! " + long: {api.ErrByte, 0}, `"` + long: {api.ErrQuote, api.MaxLine + 2}, `"` + long + `\q"`: {api.ErrQuote, api.MaxLine + 3},
	} {
		if l, why, at := Words(line); len(l) != 0 || why != want.why || at != want.at {
			t.Errorf("3.2: Words(%.8s..) = %d words, %d, %d; not %v", line, len(l), why, at, want)
		}
		holdsWords(t, line)
	}
}

func TestWordsOfQuote(t *testing.T) {
	r := source()
	try := func(s string) {
		if l, why, at := Words(Quote(s)); !slices.Equal(l, []api.Word{text(0, s)}) || why != api.OK || at != 0 {
			t.Fatalf("3.6: Words(Quote(%.60q)) = %.100v, %d, %d", s, l, why, at)
		}
	}
	for c := range 256 {
		try(string([]byte{byte(c)}))
		try("a" + string([]byte{byte(c), byte(c)}) + "0")
	}
	for range 5000 {
		try(someText(r, 10, []string{`"`, `\`, "x", "41", "\n", "\t", "\r", "\x00", "\x7f", "\xff", "é", "#", "n", "q"}))
	}
	try(strings.Repeat("\x01", api.MaxLine))
	try("")
}

// written is a word as it stands in a line.
func written(w api.Word) string {
	if w.Kind == api.WordText {
		return Quote(w.Text)
	}
	return w.Text
}

func TestWordsWrittenAgain(t *testing.T) {
	r := source()
	pieces := []string{"a", "b-c", "_.", "0", "-1", "+", "5e", "<", "=", ">", "!=", ",", ")", `"a\t"`, `""`, `"\xff\\"`, " ", "\t", " #"}
	for range 20000 {
		line := someText(r, 10, pieces)
		l, why, _ := Words(line)
		if why != api.OK {
			continue
		}
		texts := []string{}
		for _, w := range l {
			texts = append(texts, written(w))
		}
		again, why, _ := Words(strings.Join(texts, " "))
		for i := range min(len(l), len(again)) {
			l[i].At, again[i].At = 0, 0
		}
		if why != api.OK || !slices.Equal(l, again) {
			t.Fatalf("3.8: Words(%q): %v, then %v", line, l, again)
		}
	}
}

func TestWordsMemory(t *testing.T) {
	line := strings.Clone(`name -0.5 <= "text" "a\n"`)
	l, _, _ := Words(line)
	for i, w := range l {
		if !apart(w.Text, line) || w.Kind >= api.WordCount {
			t.Error("3.5: a word's text is a piece of the line:", w.Text)
		}
		for _, other := range l[:i] {
			if !apart(w.Text, other.Text) {
				t.Error("3.5: two words are pieces of one text:", w.Text, other.Text)
			}
		}
	}
	l[0].Text = "changed"
	if again, _, _ := Words(line); again[0].Text != "name" || len(again) != 5 {
		t.Error("3.5: an answer is kept:", again)
	}
}

package scan

import (
	"slices"
	"strings"
	"testing"

	"thicket/api"
)

func TestFieldsExamples(t *testing.T) {
	for line, want := range map[string][]string{
		"": {""}, "a": {"a"}, ",": {"", ""}, "a,": {"a", ""}, ",a": {"", "a"}, `a,"b,""c",`: {"a", `b,"c`, ""}, `a"b`: {`a"b`}, `a"b,c"`: {`a"b`, `c"`}, `""`: {""}, `"",""`: {"", ""}, `""""`: {`"`}, `"a"`: {"a"}, ` "a"`: {` "a"`}, "a b\t;\x00\xffé": {"a b\t;\x00\xffé"}, "\",\n\r\",x\ny": {",\n\r", "x\ny"}, `"""",",",`: {`"`, ",", ""},
	} {
		if l, why, at := Fields(line, ','); !slices.Equal(l, want) || why != api.OK || at != 0 {
			t.Errorf("3.3: Fields(%q) = %q, %d, %d", line, l, why, at)
		}
	}
	for line, place := range map[string]int{
		`"a"b`: 3, `"`: 1, `"a`: 2, `"""`: 3, `"a""`: 4, `"a"",b`: 6, `x,"a"b`: 5, `x,"`: 3, `"a" `: 3, `"a","b`: 6, `"a" ,"`: 3, `""a""`: 2,
	} {
		if l, why, at := Fields(line, ','); len(l) != 0 || why != api.ErrQuote || at != place {
			t.Errorf("3.3: Fields(%q) = %q, %d, %d", line, l, why, at)
		}
	}
}

func TestFieldsBy(t *testing.T) {
	for _, by := range []byte{'"', '\r', '\n'} {
		for _, line := range []string{"", "a", `"`, `"a"b`} {
			if l, why, at := Fields(line, by); len(l) != 0 || why != api.ErrRange || at != 0 {
				t.Errorf("3.3: Fields(%q, %q) = %q, %d, %d", line, by, l, why, at)
			}
		}
		for _, l := range [][]string{nil, {"a"}, {"a\n", "b"}} {
			if s, why := Join(l, by); s != "" || why != api.ErrRange {
				t.Errorf("3.3: Join(%q, %q) = %q, %d", l, by, s, why)
			}
		}
	}
	for c := range 256 {
		by := byte(c)
		if by == '"' || by == '\r' || by == '\n' {
			continue
		}
		one := string([]byte{by})
		first := "ab"
		if strings.Contains(first, one) {
			first = "cd"
		}
		line := first + one + `"` + one + `""q"` + one
		want := []string{first, one + `"q`, ""}
		if l, why, at := Fields(line, by); !slices.Equal(l, want) || why != api.OK || at != 0 {
			t.Errorf("3.3: Fields(%q, %q) = %q, %d, %d", line, by, l, why, at)
		}
	}
}

// fieldsByState cuts a line byte by byte: ahead of a field, within a plain one, within quotes, behind a quote in them.
func fieldsByState(line string, by byte) ([]string, api.Errno, int) {
	const ahead, plain, quoted, behind = 0, 1, 2, 3
	l := []string{""}
	state := ahead
	for at := range len(line) {
		c := line[at]
		last := &l[len(l)-1]
		switch {
		case state == quoted && c == '"':
			state = behind
		case state == behind && c == '"':
			*last += `"`
			state = quoted
		case state == quoted:
			*last += string([]byte{c})
		case c == by:
			l = append(l, "")
			state = ahead
		case state == behind:
			return nil, api.ErrQuote, at
		case state == ahead && c == '"':
			state = quoted
		default:
			*last += string([]byte{c})
			state = plain
		}
	}
	if state == quoted {
		return nil, api.ErrQuote, len(line)
	}
	return l, api.OK, 0
}

func TestFieldsOfAnyLines(t *testing.T) {
	for _, by := range []byte{',', 'a', ' '} {
		allTexts("a,\"\n ", 6, func(line string) {
			l, why, at := Fields(line, by)
			wantL, wantWhy, wantAt := fieldsByState(line, by)
			if !slices.Equal(l, wantL) || why != wantWhy || at != wantAt {
				t.Fatalf("3.3: Fields(%q, %q) = %q, %d, %d; not %q, %d, %d", line, by, l, why, at, wantL, wantWhy, wantAt)
			}
		})
	}
}

func TestJoinExamples(t *testing.T) {
	for want, l := range map[string][]string{
		`a,"b,c","""d"`: {"a", "b,c", `"d`}, "": {""}, ",": {"", ""}, "a": {"a"}, `a"b`: {`a"b`}, `"a"",b"`: {`a",b`}, `""""`: {`"`}, ` ,a b;`: {" ", "a b;"}, "\x00\xff": {"\x00\xff"}, `"""a"""`: {`"a"`},
	} {
		if s, why := Join(l, ','); s != want || why != api.OK {
			t.Errorf("3.3: Join(%q) = %s, %d", l, s, why)
		}
	}
	for _, l := range [][]string{nil, {}} {
		if s, why := Join(l, ','); s != "" || why != api.ErrMany {
			t.Error("3.3: Join of nothing:", s, why)
		}
	}
	for _, l := range [][]string{{"a\n"}, {"\r"}, {"a", "b,\"\n"}, {"", "", "\r\n"}} {
		if s, why := Join(l, ','); s != "" || why != api.ErrByte {
			t.Errorf("3.3: Join(%q) = %q, %d", l, s, why)
		}
	}
}

func TestFieldsOfJoin(t *testing.T) {
	r := source()
	pieces := []string{`"`, ",", "a", " ", ";", "\xff", "é", "\x00", `""`, "\t"}
	for range 20000 {
		l := make([]string, 1+r.IntN(5))
		for i := range l {
			l[i] = someText(r, 4, pieces)
		}
		by := ",; \t\x00\xffa|"[r.IntN(8)]
		given := slices.Clone(l)
		line, why := Join(l, by)
		again, whyAgain, at := Fields(line, by)
		if why != api.OK || whyAgain != api.OK || at != 0 || !slices.Equal(again, given) || !slices.Equal(l, given) {
			t.Fatalf("3.7: Fields(Join(%q, %q)) = %q, by %q", given, by, again, line)
		}
	}
}

func TestFieldsMemory(t *testing.T) {
	line := strings.Clone(`first,"second",third`)
	l, _, _ := Fields(line, ',')
	for _, field := range l {
		if !apart(field, line) {
			t.Error("3.5: a field is a piece of the line:", field)
		}
	}
	l[0] = "changed"
	if again, _, _ := Fields(line, ','); again[0] != "first" {
		t.Error("3.5: an answer is kept:", again)
	}
	one := []string{strings.Clone("alone")}
	if s, _ := Join(one, ','); !apart(s, one[0]) {
		t.Error("3.5: a line is its field")
	}
}

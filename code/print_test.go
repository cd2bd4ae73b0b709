package code

import (
	"fmt"
	"math"
	"math/big"
	"math/rand/v2"
	"regexp"
	"slices"
	"strconv"
	"strings"
	"testing"

	"thicket/api"
)

// noRead holds Read to ErrLine at a line.
func noRead(t *testing.T, what, s string, line int) {
	t.Helper()
	p, why, at := Read(s)
	noCode(t, fmt.Sprintf("%s: Read(%q)", what, s), p, why, api.ErrLine)
	if at != line {
		t.Errorf("%s: Read(%q): at line %d, not %d", what, s, at, line)
	}
}

func isRead(t *testing.T, what, s string, want api.Program) {
	t.Helper()
	p, why, at := Read(s)
	isCode(t, fmt.Sprintf("%s: Read(%q)", what, s), p, why, want)
	if at != 0 {
		t.Errorf("%s: Read(%q): at line %d", what, s, at)
	}
}

func TestPrint(t *testing.T) {
	p := program(api.MaxFeatures, 3,
		test(65535, minus0, left, 2), test(0, endless, right, 3), test(1, -endless, left, 4), test(2, 1e21, right, 5), test(3, 0.1, left, 12),
		in(7, right, 12, 0, 1, 1023), in(8, left, 12, 5),
		plus(2, math.MinInt64), plus(0, math.MaxInt64), plus(1, -1), plus(0, 0), leap(12), end(), end())
	want := `code 65536 3
test 65535 <= -0 missing left else 2
test 0 <= inf missing right else 3
test 1 <= -inf missing left else 4
test 2 <= 1e+21 missing right else 5
test 3 <= 0.1 missing left else 12
in 7 of 0 1 1023 missing right else 12
in 8 of 5 missing left else 12
add 2 -9223372036854.775808
add 0 9223372036854.775807
add 1 -0.000001
add 0 0
jump 12
end
end
`
	if s, why := Print(p); why != api.OK || s != want {
		t.Errorf("19.5: %q, %d, not %q", s, why, want)
	}
	isRead(t, "19.10", want, p)
	if s, why := Print(program(0, 1, end())); why != api.OK || s != "code 0 1\nend\n" {
		t.Errorf("19.5: %q, %d", s, why)
	}
	all := make([]int, api.MaxCats)
	for i := range all {
		all[i] = i
	}
	taken(t, "all categories", program(1, 1, in(0, left, 1, all...), end()))
}

// Each line as it may be written.
func TestReadLines(t *testing.T) {
	for s, want := range map[string]api.Op{
		"end":                                     end(),
		" \tend\t ":                               end(),
		"end#":                                    end(),
		"end # add 0 1 \xff\x00\"":                end(),
		"jump 0":                                  leap(0),
		"jump 999999999":                          leap(999999999),
		"add 0 0":                                 plus(0, 0),
		"add 999999999 -2.25":                     plus(999999999, -2250000),
		"add 1 -0":                                plus(1, 0),
		"add 1 007.500000":                        plus(1, 7500000),
		"add 1 -9223372036854.775808":             plus(1, math.MinInt64),
		"add\t1\t9223372036854.775807":            plus(1, math.MaxInt64),
		"test 0 <= 0.5 missing left else 4":       test(0, 0.5, left, 4),
		"test 0<=0.5 missing right else 4":        test(0, 0.5, right, 4),
		"test 0 <=-0.5 missing right else 4":      test(0, -0.5, right, 4),
		"test 0 <= -0 missing left else 0":        test(0, minus0, left, 0),
		"test 0 <= inf missing left else 0":       test(0, endless, left, 0),
		"test 0<=inf missing left else 0":         test(0, endless, left, 0),
		"test 0 <= -inf missing left else 0":      test(0, -endless, left, 0),
		"test 0 <= nan missing left else 0":       test(0, nan, left, 0),
		"test 7 <= 1e400 missing left else 0":     test(7, endless, left, 0),
		"test 7 <= 00.10 missing left else 0":     test(7, 0.1, left, 0),
		"test 7 <= 1E-3 missing left else 0":      test(7, 0.001, left, 0),
		"test 7 <= 0x1.8p1 missing left else 0":   test(7, 3, left, 0),
		"test 7 <= -0x1p-1 missing left else 0":   test(7, -0.5, left, 0),
		"in 0 of 1 3 missing right else 1":        in(0, right, 1, 1, 3),
		"in 3 of 5 missing left else 1":           in(3, left, 1, 5),
		"in 3 of 5 5 0 missing left else 1":       in(3, left, 1, 5, 5, 0),
		"in 3 of 999999999 missing left else 1":   in(3, left, 1, 999999999),
		"in 3 of 0 0 0 0 0 0 missing left else 1": in(3, left, 1, 0, 0, 0, 0, 0, 0),
	} {
		isRead(t, "19.6", "code 1 1\n"+s, program(1, 1, want))
		isRead(t, "19.6", "code 1 1\r\n"+s+"\r\n", program(1, 1, want))
		isRead(t, "19.6", "\n# x\ncode 1 1 # y\r\r \t\n"+s+"\r\n# z\n\n"+s+"\n", program(1, 1, want, want))
	}
}

// Each way in which a line may not be written.
func TestReadWrongLines(t *testing.T) {
	wrong := []string{
		"stop", "End", "\"end\"", "end end", "end 1", "end ;", ".end", "ends", "en d", "end\x00", "end\xff", "\xff", "é", "\"", "end \"", "end \"x", "!", "5", "<=", "\"\"",
		"jump", "jump 00", "jump 01", "jump -1", "jump +1", "jump 1.0", "jump 1000000000", "jump 0000000001", "jump 1 2", "jump x", "jump \"1\"", "\"jump\" 1", "jump1", "jump 1x", "jump 1e1", "jump 0x1", "jump .", "jump -0", "jump 12345678901234567890", "jump 1,",
		"add", "add 0", "add 0 1 2", "add 0 x", "add x 0", "add 00 1", "add 1000000000 1", "add -1 1", "add 0 \"1\"", "add \"0\" 1", "add 0 1.", "add 0 .5", "add 0 +1", "add 0 1e1", "add 0 1.0000000", "add 0 0x1", "add 0 inf", "add 0 nan",
		"add 0 9223372036854.775808", "add 0 -9223372036854.775809", "add 0 99999999999999999999", "add 0, 1", "add 0 - 1", "Add 0 1", "\"add\" 0 1", "add 0 " + strings.Repeat("0", api.MaxNumber+1),
		"code 1 1", "test", "in",
	}
	for _, from := range []string{"test 0 <= 0.5 missing left else 4", "in 0 of 1 3 missing right else 4"} {
		words := strings.Fields(from)
		for i := range words {
			for _, other := range []string{"", "x", "\"" + words[i] + "\"", words[i] + " " + words[i], "=", "<", "<=>", "-1", "00", "01", "1000000000", "+1", "Left", "none", "MISSING", "1.5.5", "NaN", "Inf", "infinity", "+inf", "-nan", ".5", "1.", "\xff", "\"", "5 5", "x 5", "5 x", "<= 5", "#"} {
				l := slices.Clone(words)
				l[i] = other
				wrong = append(wrong, strings.Join(l, " "))
			}
		}
		for i := range words {
			wrong = append(wrong, strings.Join(words[:i], " "))
		}
		wrong = append(wrong, from+" 1", from+" x", from+" ;", from+" \"\"")
	}
	wrong = append(wrong, "test 0 < = 0.5 missing left else 4", "test 0 <= \"0.5\" missing left else 4", "test 0 <= "+strings.Repeat("0", api.MaxNumber+1)+" missing left else 4", "in 0 of missing left else 4", "in 0 of 1, 3 missing left else 4", "in 0 of 1 left else 4", "in 0 of nan missing left else 4", "test 0 <= 1 missing left else inf")
	for _, line := range wrong {
		if _, ok := opByWords(line); ok || aBlank.MatchString(line) {
			continue // such as one more category
		}
		noRead(t, "19.6", "code 1 1\n"+line, 2)
		noRead(t, "19.6", "code 1 1\nend\n\n# x\n"+line+"\nend\nstop\n", 5)
		if line != "code 1 1" {
			noRead(t, "19.6", line, 1)
		}
	}
	for _, line := range []string{"stop", "jump 00", "add 0 9223372036854.775808", "in 0 of missing left else 4", "test 0 <= 0.5 missing none else 4", "\"end\"", "jump 1000000000"} {
		if _, ok := opByWords(line); ok {
			t.Errorf("the second opinion takes %q", line)
		}
	}
}

// The first line, and texts without one.
func TestReadHeads(t *testing.T) {
	for s, want := range map[string]api.Program{
		"code 0 0":                        {},
		"code 0 0\n":                      {},
		"code 1 2":                        {Features: 1, Outputs: 2},
		"  code\t1 2 # 3":                 {Features: 1, Outputs: 2},
		"code 999999999 999999999\r\n# x": {Features: 999999999, Outputs: 999999999},
		"\n\n \t\n#\xff\n\rcode 65537 65\n\nend\n": {Features: 65537, Outputs: 65, Ops: []api.Op{end()}},
	} {
		isRead(t, "19.6: a head", s, want)
	}
	for _, s := range []string{"", "\n", "\r\n\r\n", "# x", " \t", " # x\n\n\t#", "#\xff\n"} {
		noRead(t, "19.6: no line", s, 0)
	}
	for _, line := range []string{
		"code", "code 1", "code 1 1 1", "code 01 1", "code 1 01", "code 00 1", "code -1 1", "code +1 1", "code 1000000000 1", "code 1 1000000000", "code x 1", "code 1 x", "\"code\" 1 1", "code \"1\" 1", "code 1 \"1\"", "Code 1 1", "code 1, 1", "code 1 1;", "code1 1", "code 1.0 1",
		"end", "jump 1", "1 code 1", "code 1 1 \"", "code 1 1 \xff", "\xff\xfe", "\xef\xbb\xbfcode 1 1", "code 1 1\x00",
	} {
		noRead(t, "19.6: a head", line, 1)
		noRead(t, "19.6: a head", line+"\nend\n", 1)
		noRead(t, "19.6: a head", "\r\n# x\r"+line+"\ncode 1 1\nend\n", 3)
	}
	noRead(t, "19.6: a second head", "code 1 1\nend\ncode 1 1\n", 3)
	long := strings.Repeat("x", api.MaxLine+1)
	noRead(t, "19.6: a long word", "code 1 1\n\n"+long+"\nend", 3)
	noRead(t, "19.6: a long text", "code 1 1\nend \""+long+"\"", 2)
}

// What Read takes need not be right: Check says that.
func TestReadAndCheck(t *testing.T) {
	for s, want := range map[string]struct {
		why api.Errno
		at  int
	}{
		"code 1 1\nend":       {api.OK, 0},
		"code 1 1":            {api.ErrCode, 0},
		"code 65537 1\nend":   {api.ErrSize, 0},
		"code 1 0\nend":       {api.ErrSize, 0},
		"code 1 65\nend":      {api.ErrSize, 0},
		"code 1 1\nadd 1 1\n": {api.ErrCode, 0},
		"code 1 1\nadd 0 1\ntest 0 <= nan missing left else 2\nend": {api.ErrCode, 1},
		"code 1 1\nadd 0 1\ntest 0 <= inf missing left else 2\nend": {api.OK, 0},
		"code 1 1\nadd 0 1\nin 0 of 3 1 missing left else 2\nend":   {api.ErrCode, 1},
		"code 1 1\nadd 0 1\nin 0 of 1024 missing left else 2\nend":  {api.ErrCode, 1},
		"code 1 1\njump 0\nend": {api.ErrCode, 0},
	} {
		p, why, _ := Read(s)
		if no, at := Check(p); why != api.OK || no != want.why || at != want.at {
			t.Errorf("19.6: %q: %d, and Check %d at %d, not %d at %d", s, why, no, at, want.why, want.at)
		}
	}
}

// A second opinion of lines, from the chapters' words: patterns in the place of scan, floats and fixed.
var (
	aBlank     = regexp.MustCompile(`(?s)^[ \t]*(#.*)?$`)
	anEnd      = regexp.MustCompile(`\r\n|\r|\n`)
	aDigits    = regexp.MustCompile(`^(0|[1-9][0-9]{0,8})$`)
	aThreshold = regexp.MustCompile(`^(nan|-?inf|-?[0-9]+(\.[0-9]+)?([eE][+-]?[0-9]+)?|-?0x[0-9a-fA-F]+(\.[0-9a-fA-F]+)?p[+-]?[0-9]+)$`)
	aFixed     = regexp.MustCompile(`^-?[0-9]+(\.[0-9]{1,6})?$`)
	aName      = regexp.MustCompile(`^[A-Za-z_][A-Za-z0-9_.-]*`)
	aNumber    = regexp.MustCompile(`^[0-9+.-][A-Za-z0-9_+.-]*`)
	aMark      = regexp.MustCompile(`^(<=|>=|!=|[,:;=<>()\[\]{}|])`)
	aQuote     = regexp.MustCompile(`(?s)^"([^\x00-\x1f\x7f"\\]|\\["\\nt]|\\x[0-9a-fA-F]{2})*"`)
)

// tokens are a line's words, each with its kind's letter ahead; false, if it has a byte with which none begins.
func tokens(line string) ([]string, bool) {
	var l []string
	for line != "" && line[0] != '#' {
		if line[0] == ' ' || line[0] == '\t' {
			line = line[1:]
			continue
		}
		before := len(line)
		for kind, p := range map[string]*regexp.Regexp{"a": aName, "n": aNumber, "m": aMark, "q": aQuote} {
			if s := p.FindString(line); s != "" {
				l, line = append(l, kind+s), line[len(s):]
				break
			}
		}
		if len(line) == before {
			return nil, false
		}
	}
	return l, true
}

func countByWords(s string) (int, bool) {
	n, _ := strconv.Atoi(strings.TrimPrefix(s, "n"))
	return n, strings.HasPrefix(s, "n") && aDigits.MatchString(s[1:])
}

func thresholdByWords(s string) (float64, bool) {
	if s == "" || s[0] != 'n' && s[0] != 'a' || len(s) > 4097 || !aThreshold.MatchString(s[1:]) {
		return 0, false
	}
	v, _ := strconv.ParseFloat(s[1:], 64)
	return v, true
}

func fixedByWords(s string) (int64, bool) {
	if s == "" || s[0] != 'n' || len(s) > 4097 || !aFixed.MatchString(s[1:]) {
		return 0, false
	}
	v, _ := new(big.Rat).SetString(s[1:])
	v.Mul(v, big.NewRat(1000000, 1))
	return v.Num().Int64(), v.Num().IsInt64()
}

// endByWords is what tests have at their end.
func endByWords(o api.Op, l []string) (api.Op, bool) {
	if len(l) != 4 || l[0] != "amissing" || l[1] != "aleft" && l[1] != "aright" || l[2] != "aelse" {
		return api.Op{}, false
	}
	o.Missing = right
	if l[1] == "aleft" {
		o.Missing = left
	}
	to, ok := countByWords(l[3])
	o.To = to
	return o, ok
}

func opByWords(line string) (api.Op, bool) {
	l, ok := tokens(line)
	if !ok || len(l) == 0 {
		return api.Op{}, false
	}
	switch {
	case l[0] == "aend":
		return end(), len(l) == 1
	case l[0] == "ajump" && len(l) == 2:
		to, ok := countByWords(l[1])
		return leap(to), ok
	case l[0] == "aadd" && len(l) == 3:
		output, ok := countByWords(l[1])
		v, fine := fixedByWords(l[2])
		return plus(output, v), ok && fine
	case l[0] == "atest" && len(l) == 8 && l[2] == "m<=":
		feature, ok := countByWords(l[1])
		v, fine := thresholdByWords(l[3])
		o, right := endByWords(test(feature, v, 0, 0), l[4:])
		return o, ok && fine && right
	case l[0] == "ain" && len(l) >= 8 && l[2] == "aof":
		feature, ok := countByWords(l[1])
		var cats []int
		for _, s := range l[3 : len(l)-4] {
			c, fine := countByWords(s)
			ok = ok && fine
			cats = append(cats, c)
		}
		o, right := endByWords(in(feature, 0, 0, cats...), l[len(l)-4:])
		return o, ok && right
	}
	return api.Op{}, false
}

// readByWords is what a text says, or the number of the line at fault.
func readByWords(s string) (api.Program, bool, int) {
	var p api.Program
	begun := false
	for i, line := range anEnd.Split(s, -1) {
		if aBlank.MatchString(line) {
			continue
		}
		if begun {
			o, ok := opByWords(line)
			if !ok {
				return api.Program{}, false, i + 1
			}
			p.Ops = append(p.Ops, o)
			continue
		}
		l, ok := tokens(line)
		if !ok || len(l) != 3 || l[0] != "acode" {
			return api.Program{}, false, i + 1
		}
		features, fine := countByWords(l[1])
		outputs, good := countByWords(l[2])
		if !fine || !good {
			return api.Program{}, false, i + 1
		}
		p.Features, p.Outputs, begun = features, outputs, true
	}
	return p, begun, 0
}

// isAsByWords holds Read to the second opinion; it tells whether the text is one.
func isAsByWords(t *testing.T, s string) bool {
	t.Helper()
	p, ok, line := readByWords(s)
	if ok {
		isRead(t, "19.6", s, p)
	} else {
		noRead(t, "19.6", s, line)
	}
	if t.Failed() {
		t.FailNow()
	}
	return ok
}

func pick(r *rand.Rand, l []string) string { return l[r.IntN(len(l))] }

// Texts of words, right ones more often than not.
func TestReadSomeTexts(t *testing.T) {
	r := source()
	pieces := []string{"test", "in", "add", "jump", "end", "code", "of", "missing", "left", "right", "else", "<=", "<", "=", "0", "1", "2", "17", "007", "-1", "0.5", "-0", "1e5", "inf", "-inf", "nan", "NaN", "999999999", "1000000000", "\"end\"", "\"", "#", "x", "+1", ".5", "0x1p3", "0x1", "\xff", "é", "\x00", ";"}
	ends := []string{"\n", "\r\n", "\r", "\n\n", " \n", "\t# x\n", "\n# \xff\n"}
	rights := 0
	for range 60000 {
		var b strings.Builder
		b.WriteString(pick(r, []string{"", "", "", "\n", "# x\r\n", " "}))
		b.WriteString(pick(r, []string{"code 1 1", "code 2 3", "code 0 0", "code 1 1", "code 1", "end", "code 01 1"}))
		b.WriteString(pick(r, ends))
		for range r.IntN(5) {
			words := strings.Fields(pick(r, []string{
				"end", "jump 5", "add 0 1.5", "test 0 <= 0.5 missing left else 4", "in 0 of 1 3 missing right else 4", "in 2 of 0 missing left else 0", "test 1 <= inf missing right else 2", "add 1 -7", "test 0 <= nan missing left else 3",
			}))
			if r.IntN(3) == 0 {
				switch i := r.IntN(len(words)); r.IntN(3) {
				case 0:
					words[i] = pick(r, pieces)
				case 1:
					words = slices.Insert(words, i, pick(r, pieces))
				case 2:
					words = slices.Delete(words, i, i+1)
				}
			}
			b.WriteString(strings.Join(words, pick(r, []string{" ", " ", "\t", "  ", ""})))
			b.WriteString(pick(r, ends))
		}
		if isAsByWords(t, b.String()) {
			rights++
		}
	}
	if rights < 5000 {
		t.Error("only", rights, "texts are right")
	}
}

// Texts of any bytes, and right ones in which bytes were changed.
func TestReadAnyBytes(t *testing.T) {
	r := source()
	const bytes = "code 1end\n\r\t#\"\\<=.-\xff\x00addjump"
	for range 30000 {
		b := make([]byte, r.IntN(40))
		for i := range b {
			b[i] = bytes[r.IntN(len(bytes))]
		}
		isAsByWords(t, string(b))
	}
	from, _ := Print(allKinds())
	for range 30000 {
		b := []byte(from)
		for range 1 + r.IntN(3) {
			switch i := r.IntN(len(b)); r.IntN(4) {
			case 0:
				b[i] = byte(r.Uint32())
			case 1:
				b[i] = b[r.IntN(len(b))]
			case 2:
				b = slices.Insert(b, i, b[r.IntN(len(b))])
			case 3:
				b = slices.Delete(b, i, i+1)
			}
		}
		isAsByWords(t, string(b))
	}
}

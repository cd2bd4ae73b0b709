package batch

import (
	"fmt"
	"math/rand/v2"
	"regexp"
	"slices"
	"strconv"
	"strings"
	"testing"

	"thicket/api"
)

// A second opinion, from the chapters' words: patterns in the place of scan and floats, strconv for the numbers.
var (
	anEnd      = regexp.MustCompile(`\r\n|\r|\n`)
	aNumber    = regexp.MustCompile(`^(nan|-?inf|-?[0-9]+(\.[0-9]+)?([eE][+-]?[0-9]+)?|-?0x[0-9a-fA-F]+(\.[0-9a-fA-F]+)?p[+-]?[0-9]+)$`)
	anIndex    = regexp.MustCompile(`^[1-9][0-9]*$`)
	aWord      = regexp.MustCompile(`^[A-Za-z_][A-Za-z0-9_.-]*`)
	aFigure    = regexp.MustCompile(`^[0-9+.-][A-Za-z0-9_+.-]*`)
	aMark      = regexp.MustCompile(`^(<=|>=|!=|[,:;=<>()\[\]{}|])`)
	aQuote     = regexp.MustCompile(`(?s)^"([^\x00-\x1f\x7f"\\]|\\["\\nt]|\\x[0-9a-fA-F]{2})*"`)
	aBlankLine = regexp.MustCompile(`(?s)^[ \t]*(#.*)?$`)
)

func linesByWords(s string) []string {
	l := anEnd.Split(s, -1)
	if l[len(l)-1] == "" {
		l = l[:len(l)-1]
	}
	return l
}

// token is a word: n of a name or a number, m of a mark, q of a quoted text.
type token struct {
	kind byte
	text string
}

// tokens are a line's words; false, if it has a byte with which none begins. (Texts too long are not tried here.)
func tokens(line string) ([]token, bool) {
	var l []token
	for line != "" && line[0] != '#' {
		if line[0] == ' ' || line[0] == '\t' {
			line = line[1:]
			continue
		}
		found := false
		for kind, p := range map[byte]*regexp.Regexp{'a': aWord, 'n': aFigure, 'm': aMark, 'q': aQuote} {
			if s := p.FindString(line); s != "" {
				l, line, found = append(l, token{kind, s}), line[len(s):], true
				break
			}
		}
		if !found {
			return nil, false
		}
	}
	return l, true
}

// valueOf is what a number's text says.
func valueOf(s string) (float64, bool) {
	if !aNumber.MatchString(s) {
		return 0, false
	}
	v, _ := strconv.ParseFloat(s, 64)
	return v, true
}

func (k token) value() (float64, bool) {
	v, ok := valueOf(k.text)
	return v, ok && (k.kind == 'a' || k.kind == 'n')
}

// denseByWords is the rules that a line breaks, and its vector.
func denseByWords(line string, d int) ([]int, []float64) {
	l, ok := tokens(line)
	if !ok {
		return []int{1}, nil
	}
	var rules []int
	if len(l) != d {
		rules = append(rules, 2)
	}
	var x []float64
	for _, k := range l {
		v, ok := k.value()
		if !ok {
			rules = append(rules, 3)
		}
		x = append(x, v)
	}
	return rules, x
}

// sparseByWords likewise; the vector is led by the label.
func sparseByWords(line string, d int, lost bool) ([]int, []float64) {
	l, ok := tokens(line)
	if !ok {
		return []int{1}, nil
	}
	if len(l)%3 != 1 {
		return []int{2}, nil
	}
	var rules []int
	x := make([]float64, d+1)
	if lost {
		for i := range x {
			x[i] = nan
		}
	}
	if x[0], ok = l[0].value(); !ok {
		rules = append(rules, 3)
	}
	last := 0
	for k := 1; k < len(l); k += 3 {
		if l[k+1] != (token{'m', ":"}) {
			rules = append(rules, 2)
		}
		i, err := strconv.Atoi(l[k].text)
		if l[k].kind != 'n' || err != nil || !anIndex.MatchString(l[k].text) || i > d {
			rules = append(rules, 4)
			continue
		}
		if i <= last {
			rules = append(rules, 5)
		}
		last = i
		v, ok := l[k+2].value()
		if !ok {
			rules = append(rules, 6)
		}
		x[i] = v
	}
	return rules, x
}

// fieldsByWords cuts a line at its commas, one field after another.
func fieldsByWords(line string) ([]string, bool) {
	quoted := regexp.MustCompile(`(?s)^"(([^"]|"")*)"(,|$)`)
	plain := regexp.MustCompile(`(?s)^([^",][^,]*)?(,|$)`)
	var l []string
	for {
		m := quoted.FindStringSubmatch(line)
		switch {
		case m != nil:
			l = append(l, strings.ReplaceAll(m[1], `""`, `"`))
		default:
			if m = plain.FindStringSubmatch(line); m == nil {
				return nil, false
			}
			l = append(l, m[1])
		}
		line = line[len(m[0]):]
		if !strings.HasSuffix(m[0], ",") {
			return l, true
		}
	}
}

// readByWords reads the lines that are not blank; of the first one that breaks rules the least is told.
func readByWords(s string, isBlank func(string) bool, read func(line string) ([]int, []float64)) ([][]float64, api.Fault) {
	var l [][]float64
	for i, line := range linesByWords(s) {
		if isBlank(line) {
			continue
		}
		rules, x := read(line)
		if len(rules) > 0 {
			return nil, api.Fault{Line: i + 1, Rule: slices.Min(rules)}
		}
		if x != nil {
			l = append(l, x)
		}
	}
	return l, api.Fault{}
}

func csvByWords(s string, features []string) ([][]float64, api.Fault) {
	var header []string
	l, fault := readByWords(s, func(line string) bool { return line == "" }, func(line string) ([]int, []float64) {
		fields, ok := fieldsByWords(line)
		if !ok {
			return []int{1}, nil
		}
		var rules []int
		if header == nil {
			header = fields
			for _, f := range features {
				if len(slices.DeleteFunc(slices.Clone(fields), func(s string) bool { return s != f })) != 1 {
					rules = append(rules, 2)
				}
			}
			return rules, nil
		}
		if len(fields) != len(header) {
			return []int{3}, nil
		}
		var x []float64
		for _, f := range features {
			s := fields[slices.Index(header, f)]
			v, ok := valueOf(s)
			switch {
			case s == "":
				v = nan
			case !ok:
				rules = append(rules, 4)
			}
			x = append(x, v)
		}
		return rules, x
	})
	if fault == (api.Fault{}) && header == nil {
		fault = api.Fault{Line: len(linesByWords(s)) + 1, Rule: 2}
	}
	return l, fault
}

// judge holds the three readers to the second opinion.
func judge(t *testing.T, s string, d int, lost bool, features []string) [3]int {
	t.Helper()
	hold := func(what string, a answer, l [][]float64, fault api.Fault, labels ...float64) int {
		t.Helper()
		if fault.Rule != 0 {
			breaks(t, what+fmt.Sprintf(" of %q", s), a, fault.Line, fault.Rule)
		} else {
			says(t, what+fmt.Sprintf(" of %q", s), a, l, labels...)
		}
		return fault.Rule
	}
	blank := aBlankLine.MatchString
	var told [3]int
	l, fault := readByWords(s, blank, func(line string) ([]int, []float64) { return denseByWords(line, d) })
	told[0] = hold("17.1: Dense", dense(s, d), l, fault)
	l, fault = csvByWords(s, features)
	told[1] = hold("17.2: Csv", csv(s, features...), l, fault)
	l, fault = readByWords(s, blank, func(line string) ([]int, []float64) { return sparseByWords(line, d, lost) })
	var labels []float64
	for i := range l {
		labels, l[i] = append(labels, l[i][0]), l[i][1:]
	}
	told[2] = hold("17.3: Sparse", sparse(s, d, lost), l, fault, labels...)
	return told
}

func pick(r *rand.Rand, l ...string) string { return l[r.IntN(len(l))] }

// someText is a text of one of the three forms, more or less.
func someText(r *rand.Rand, form, d int) string {
	number := func() string {
		if r.IntN(25) == 0 {
			return pick(r, "x", "+1", ".5", "", " ", `"1"`, "NaN", "1e", "é", "!", ":", "1,1", `"`, "# x", "0x1")
		}
		return pick(r, "0", "-0", "1", "2", "3", "-2.5", "nan", "inf", "-inf", "1e400", "0x1.8p1", "007", "5e-324", "0.1", "1e-7")
	}
	var b strings.Builder
	if form == 1 {
		b.WriteString(pick(r, "a,b", "b,a", "x,b,a", `"a",x,"b"`, "a,b,,", "a,b,x", "a,a", "a", "", "\na,b", `a,"b`) + pick(r, "\n", "\r\n"))
	}
	for range r.IntN(4) {
		var l []string
		switch form {
		case 0:
			for range d + r.IntN(25)/24 {
				l = append(l, number())
			}
			b.WriteString(strings.Join(l, pick(r, " ", "\t", "  ")))
		case 1:
			for range 2 + r.IntN(3) {
				l = append(l, number())
			}
			b.WriteString(strings.Join(l, ","))
		case 2:
			l = append(l, number())
			for i := range d {
				if r.IntN(2) == 0 {
					at := i + 1
					if r.IntN(15) == 0 {
						at = r.IntN(d + 2)
					}
					l = append(l, pick(r, "", "", "", "", "", "", "", "0", "+")+strconv.Itoa(at)+pick(r, ":", ":", ":", " : ", ":", ":", "=", "")+number())
				}
			}
			b.WriteString(strings.Join(l, " "))
		}
		b.WriteString(pick(r, "", "", "", "", " ", " # x", "#\xff") + pick(r, "\n", "\n", "\n", "\r\n", "\r", "\n\n", "\n#\n", "\n \n"))
	}
	s := b.String()
	if r.IntN(3) == 0 {
		s = strings.TrimRight(s, "\r\n")
	}
	return s
}

// Any texts: the second opinion has the same of each, and all rules are broken by some.
func TestAnyTexts(t *testing.T) {
	r := source()
	var told [3][7]int
	for range 15000 {
		d := 1 + r.IntN(3)
		s := someText(r, r.IntN(3), d)
		for i, rule := range judge(t, s, d, r.IntN(2) == 0, []string{"a", "b"}[:1+r.IntN(2)]) {
			told[i][rule]++
		}
	}
	for i, rules := range [3]int{3, 4, 6} {
		for rule := range rules + 1 {
			if told[i][rule] == 0 {
				t.Errorf("no text broke rule %d of form %d", rule, i)
			}
		}
	}
}

// Whatever the bytes are, a call answers.
func TestAnyBytes(t *testing.T) {
	r := source()
	for range 15000 {
		d := 1 + r.IntN(3)
		b := []byte(someText(r, r.IntN(3), d))
		for range r.IntN(4) {
			if len(b) > 0 {
				b[r.IntN(len(b))] = byte(r.IntN(256))
			}
		}
		judge(t, string(b), d, r.IntN(2) == 0, []string{"a"})
	}
	const bytes = "1:2a,\" \n\r\t#.-+e\\x\xffb0"
	for range 5000 {
		b := make([]byte, r.IntN(12))
		for i := range b {
			b[i] = bytes[r.IntN(len(bytes))]
		}
		judge(t, string(b), 1+r.IntN(2), r.IntN(2) == 0, []string{"a"})
	}
}

// Short texts, all of them.
func TestShortTexts(t *testing.T) {
	const bytes = "1:a,\" \n#"
	var grow func(s string)
	grow = func(s string) {
		judge(t, s, 1, len(s)%2 == 0, []string{"a"})
		if len(s) < 5 {
			for i := range len(bytes) {
				grow(s + bytes[i:i+1])
			}
		}
	}
	grow("")
}

// A batch's vectors are those of its lines, one by one; two texts, one behind the other, say the vectors of both.
func TestEachByItself(t *testing.T) {
	r := source()
	heads := []string{"a,b\n", "b,a\n", "\nx,b,a\n"}
	for range 3000 {
		d := 1 + r.IntN(3)
		lost := r.IntN(2) == 0
		head := heads[r.IntN(3)]
		read := func(form int, s string) answer {
			switch form {
			case 0:
				return dense(s, d)
			case 1:
				return csv(head+s, "a", "b")
			}
			return sparse(s, d, lost)
		}
		for form := range 3 {
			var lines []string
			var alone [][]float64
			var labels []float64
			var fault api.Fault
			for range r.IntN(6) {
				line := strings.NewReplacer("\n", "", "\r", "").Replace(someText(r, []int{0, 0, 2}[form], d))
				if form == 1 {
					line = pick(r, "1,2", "3,4", ",nan", "-0,", "5,6,7", "8,,9", "z,1", `"`, "")
				}
				lines = append(lines, line)
				a := read(form, line+"\n")
				if a.why == api.ErrLine && fault.Rule == 0 {
					fault = api.Fault{Line: len(lines) + a.fault.Line - 1, Rule: a.fault.Rule}
				}
				alone, labels = append(alone, a.l...), append(labels, a.labels...)
			}
			s := strings.Join(append(lines, ""), "\n")
			what := fmt.Sprintf("17.7, P9: form %d, %q", form, s)
			if a := read(form, s); fault.Rule != 0 {
				breaks(t, what, a, fault.Line, fault.Rule)
				continue
			}
			says(t, what, read(form, s), alone, labels...)
			if form == 1 {
				continue
			}
			k := r.IntN(len(lines) + 1)
			one, other := read(form, strings.Join(append(lines[:k:k], ""), "\n")), read(form, strings.Join(lines[k:], "\n"))
			says(t, what, read(form, s), slices.Concat(one.l, other.l), slices.Concat(one.labels, other.labels)...)
		}
	}
}

package batch

import (
	"fmt"
	"math"
	"math/rand/v2"
	"slices"
	"strconv"
	"strings"
	"testing"

	"thicket/api"
)

var (
	nan     = math.NaN()
	endless = math.Inf(1)
	minus0  = math.Copysign(0, -1)
)

func source() *rand.Rand { return rand.New(rand.NewPCG(17, 17)) }

// answer is what a reader answers; of Dense and Csv without labels.
type answer struct {
	l      [][]float64
	labels []float64
	why    api.Errno
	fault  api.Fault
}

func dense(s string, d int) answer {
	l, why, fault := Dense(s, d)
	return answer{l, nil, why, fault}
}

func csv(s string, features ...string) answer {
	l, why, fault := Csv(s, features)
	return answer{l, nil, why, fault}
}

func sparse(s string, d int, lost bool) answer {
	l, labels, why, fault := Sparse(s, d, lost)
	return answer{l, labels, why, fault}
}

// equal tells whether numbers are the same by their bits, NaNs alike: with no help of Same.
func equal(a, b []float64) bool {
	return slices.EqualFunc(a, b, func(x, y float64) bool {
		return x == y && math.Signbit(x) == math.Signbit(y) || x != x && y != y
	})
}

func equals(a, b [][]float64) bool { return slices.EqualFunc(a, b, equal) }

// says holds an answer to vectors, and to labels where there are some.
func says(t *testing.T, what string, a answer, l [][]float64, labels ...float64) {
	t.Helper()
	if a.why != api.OK || a.fault != (api.Fault{}) || !equals(a.l, l) || !equal(a.labels, labels) {
		t.Errorf("%.200s = %.300s, not %.300s", what, fmt.Sprint(a), fmt.Sprint(l, labels))
	}
}

// breaks holds an answer to a fault, beside which there is nothing.
func breaks(t *testing.T, what string, a answer, line, rule int) {
	t.Helper()
	if a.why != api.ErrLine || a.fault != (api.Fault{Line: line, Rule: rule}) {
		t.Errorf("%.200s: %d, %v, not line %d rule %d", what, a.why, a.fault, line, rule)
	}
	if a.l != nil || a.labels != nil {
		t.Errorf("P2: %.200s: vectors beside a fault", what)
	}
}

// refused holds an answer to an error with which nothing is told.
func refused(t *testing.T, what string, a answer) {
	t.Helper()
	if a.why != api.ErrRange || a.fault != (api.Fault{}) || a.l != nil || a.labels != nil {
		t.Errorf("%.200s: %.200s", what, fmt.Sprint(a))
	}
}

func TestExamples(t *testing.T) {
	says(t, "17.1: example 1", dense("1 -2.5\n\n# x\nnan inf # y", 2), [][]float64{{1, -2.5}, {nan, endless}})
	breaks(t, "17.1: example 1", dense("1 2\n3\n", 2), 2, 2)
	breaks(t, "17.1: example 1", dense("1 \"2\"", 2), 1, 3)
	breaks(t, "17.1: example 1", dense("1 !", 2), 1, 1)
	refused(t, "17.1: example 1", dense("", 0))

	says(t, "17.2: example 2", csv("b,x,a\n2,?,1\n", "a", "b"), [][]float64{{1, 2}})
	says(t, "17.2: example 2", csv("a,b\n1,\n", "a", "b"), [][]float64{{1, nan}})
	breaks(t, "17.2: example 2", csv("a,a\n", "a"), 1, 2)
	breaks(t, "17.2: example 2", csv("\n\n", "a"), 3, 2)
	breaks(t, "17.2: example 2", csv("a\n1,2", "a"), 2, 3)
	breaks(t, "17.2: example 2", csv("a,b\n1,z", "a", "b"), 2, 4)

	says(t, "17.3: example 3", sparse("1 2:0.5 3:-1\n-1\n", 3, false), [][]float64{{0, 0.5, -1}, {0, 0, 0}}, 1, -1)
	says(t, "17.3: example 3", sparse("1 2:0.5 3:-1\n-1\n", 3, true), [][]float64{{nan, 0.5, -1}, {nan, nan, nan}}, 1, -1)
	breaks(t, "17.3: example 3", sparse("1 2:1 2:1", 3, false), 1, 5)
	breaks(t, "17.3: example 3", sparse("1 4:1", 3, false), 1, 4)
	breaks(t, "17.3: example 3", sparse("x 0:1", 3, false), 1, 3)
	breaks(t, "17.3: example 3", sparse("1 2 3", 3, false), 1, 2)

	written(t, "17.4: example 4", "0.1 -0\n")(PrintDense([][]float64{{0.1, minus0}}))
	written(t, "17.4: example 4", "a,b\n1,nan\n")(PrintCsv([]string{"a", "b"}, [][]float64{{1, nan}}))
	written(t, "17.4: example 4", "1 2:-0 3:2\n")(PrintSparse([][]float64{{0, minus0, 2}}, []float64{1}, false))
}

// manyWords is so many words with a blank between.
func manyWords(n int, word string) string {
	return strings.TrimSuffix(strings.Repeat(word+" ", n), " ")
}

func TestD(t *testing.T) {
	for _, d := range []int{0, -1, api.MaxFeatures + 1, math.MinInt, math.MaxInt} {
		for _, s := range []string{"", "1", "!", "1 2 3", "# x\n", "1 !\n1 2 3\nx"} {
			refused(t, fmt.Sprintf("17.1: Dense(%q, %d)", s, d), dense(s, d))
			refused(t, fmt.Sprintf("17.3: Sparse(%q, %d)", s, d), sparse(s, d, false))
			refused(t, fmt.Sprintf("17.3: Sparse(%q, %d), lost", s, d), sparse(s, d, true))
		}
	}
	for _, d := range []int{1, 2, 3, api.MaxFeatures - 1, api.MaxFeatures} {
		ones := slices.Repeat([]float64{1}, d)
		says(t, "17.1: d words", dense(manyWords(d, "1"), d), [][]float64{ones})
		breaks(t, "17.1: a word too many", dense(manyWords(d+1, "1"), d), 1, 2)
		if d > 1 {
			breaks(t, "17.1: a word too few", dense(manyWords(d-1, "1"), d), 1, 2)
		}
		last := make([]float64, d)
		last[d-1] = 7
		says(t, "17.3: the last index", sparse("5 "+strconv.Itoa(d)+":7", d, false), [][]float64{last}, 5)
		breaks(t, "17.3: an index too great", sparse("5 "+strconv.Itoa(d+1)+":7", d, false), 1, 4)
	}
}

// A text without a vector has none; only a CSV must have a header.
func TestNoVectors(t *testing.T) {
	for _, s := range []string{"", "\n", "\r", "\r\n", "\n\n\n", " \t\n\t", "#", "# 1 2", "# 1\n\n  # \xff\x00 !\n\t#\"", " # x\r\n\r\n# y\r"} {
		for _, d := range []int{1, 2, api.MaxFeatures} {
			says(t, fmt.Sprintf("17.1: Dense(%q)", s), dense(s, d), nil)
			says(t, fmt.Sprintf("17.3: Sparse(%q)", s), sparse(s, d, false), nil)
			says(t, fmt.Sprintf("17.3: Sparse(%q), lost", s), sparse(s, d, true), nil)
		}
	}
	for s, line := range map[string]int{"": 1, "\n": 2, "\r": 2, "\r\n": 2, "\n\r": 3, "\n\n\n": 4, "\r\n\r\n": 3} {
		breaks(t, fmt.Sprintf("17.2: Csv(%q)", s), csv(s, "a"), line, 2)
	}
	for _, s := range []string{"a", "a\n", "a\r\n", "\n\na\n\n\r\n", "b,a", "b,\"a\",\n"} {
		says(t, fmt.Sprintf("17.2: Csv(%q)", s), csv(s, "a"), nil)
	}
}

// A line ends by LF, CR or both together; the last one may have no end.
func TestEnds(t *testing.T) {
	for _, end := range []string{"\n", "\r", "\r\n"} {
		for _, last := range []string{"", "\n", "\r\n", "\r", "\n\n"} {
			what := fmt.Sprintf("with ends %q and %q", end, last)
			says(t, "17.1: "+what, dense("1 2"+end+end+"3 4"+last, 2), [][]float64{{1, 2}, {3, 4}})
			breaks(t, "17.1: "+what, dense("1 2"+end+end+"# x"+end+"3"+last, 2), 4, 2)
			says(t, "17.2: "+what, csv(end+"a,b"+end+end+"1,2"+end+"3,4"+last, "a", "b"), [][]float64{{1, 2}, {3, 4}})
			breaks(t, "17.2: "+what, csv(end+"a,b"+end+end+"1,2"+end+"3"+last, "a", "b"), 5, 3)
			says(t, "17.3: "+what, sparse("1 1:2"+end+end+"3 2:4"+last, 2, false), [][]float64{{2, 0}, {0, 4}}, 1, 3)
			breaks(t, "17.3: "+what, sparse("1 1:2"+end+end+"# x"+end+"3 :"+last, 2, false), 4, 2)
		}
	}
}

// rightTexts are numbers' texts, and what they say.
func rightTexts() map[string]float64 {
	return map[string]float64{
		"0": 0, "-0": minus0, "0.0": 0, "-0e5": minus0, "1": 1, "-2.5": -2.5, "007": 7, "-00.50": -0.5, "1e3": 1000, "1E+3": 1000, "25e-1": 2.5, "0.1": 0.1, "9007199254740993": 9007199254740992,
		"nan": nan, "inf": endless, "-inf": -endless, "1e400": endless, "-1e400": -endless, "1e-400": 0, "-1e-400": minus0, "5e-324": 5e-324, "1.7976931348623157e308": math.MaxFloat64, "2.2250738585072011e-308": math.Float64frombits(0x000fffffffffffff),
		"0x1.8p1": 3, "-0xAbp-1": -85.5, "0x0p0": 0, "-0x0p+0": minus0, "1e99999999999999999999": endless, "1e-99999999999999999999": 0,
		strings.Repeat("0", api.MaxNumber-1) + "4":        4,
		"0." + strings.Repeat("3", api.MaxNumber-2):       1.0 / 3,
		"-" + strings.Repeat("9", api.MaxNumber-1):        -endless,
		"1e" + strings.Repeat("0", api.MaxNumber-3) + "2": 100,
	}
}

// wrongTexts are words, none of which is a number's text.
func wrongTexts() []string {
	return []string{"+1", ".5", "1.", "-.5", "-", "+", ".", "NaN", "NAN", "Inf", "INF", "-nan", "+inf", "infinity", "nan0", "inf1", "1e", "1e+", "1ee1", "1e1.5", "0x1", "0x.8p1", "0xp1", "0X1p1", "0x1p", "1_0", "--1", "1-", "x", "_1", "1x", "e5", "true", "null", "NA",
		strings.Repeat("0", api.MaxNumber+1), "0." + strings.Repeat("3", api.MaxNumber-1), "1e" + strings.Repeat("0", api.MaxNumber-1), strings.Repeat("1", api.MaxLine), strings.Repeat("n", api.MaxLine)}
}

// Each number's text, and each that is none, at every place where a number may stand.
func TestNumbers(t *testing.T) {
	for s, v := range rightTexts() {
		says(t, "17.1: "+s, dense(s+" 2 "+s, 3), [][]float64{{v, 2, v}})
		says(t, "17.2: "+s, csv("a,b,c\n"+s+",2,"+s, "a", "c", "b"), [][]float64{{v, v, 2}})
		says(t, "17.3: "+s, sparse(s+" 2:"+s+" 3:1", 3, false), [][]float64{{0, v, 1}}, v)
		says(t, "17.3: "+s, sparse("1 1:1 3:"+s, 3, true), [][]float64{{1, nan, v}}, 1)
	}
	for _, s := range wrongTexts() {
		breaks(t, "17.1: "+s, dense(s+" 2", 2), 1, 3)
		breaks(t, "17.1: "+s, dense("1 2\n1 "+s, 2), 2, 3)
		breaks(t, "17.2: "+s, csv("a,b\n"+s+",2", "a", "b"), 2, 4)
		breaks(t, "17.2: "+s, csv("a,b\n1,2\n1,"+s, "a", "b"), 3, 4)
		breaks(t, "17.3: "+s, sparse(s, 2, false), 1, 3)
		breaks(t, "17.3: "+s, sparse(s+" 1:1", 2, false), 1, 3)
		breaks(t, "17.3: "+s, sparse("1\n1 2:"+s, 2, false), 2, 6)
		breaks(t, "17.3: "+s, sparse("1 1:"+s+" 2:1", 2, true), 1, 6)
	}
	long := strings.Repeat("1", api.MaxLine+1)
	breaks(t, "17.1: a word too long", dense("1 "+long, 2), 1, 1)
	breaks(t, "17.3: a word too long", sparse(long, 2, false), 1, 1)
	breaks(t, "17.2: a field has no limit of its own", csv("a,b\n1,"+long, "a", "b"), 2, 4)
	says(t, "17.2: nor has one that is not looked at", csv("a,"+long+"\n1,"+long, "a"), [][]float64{{1}})
}

// A quoted word is no number, whatever it says; a quoted field is what it says.
func TestQuoted(t *testing.T) {
	for _, s := range []string{`"1"`, `"nan"`, `""`, `"x"`, `"\n"`, `"\x31"`, "\"\xff\"", `"é"`} {
		breaks(t, "17.1: "+s, dense(s, 1), 1, 3)
		breaks(t, "17.1: "+s, dense("1 "+s, 2), 1, 3)
		breaks(t, "17.3: "+s, sparse(s, 1, false), 1, 3)
		breaks(t, "17.3: "+s, sparse("1 "+s+":1", 1, false), 1, 4)
		breaks(t, "17.3: "+s, sparse("1 1:"+s, 1, false), 1, 6)
	}
	for _, s := range []string{`"1`, `"`, `"\q"`, `"\x4"`, "\"\x01\"", "\"a\x7f\""} {
		breaks(t, "17.1: "+s, dense("1 "+s, 2), 1, 1)
		breaks(t, "17.3: "+s, sparse("1 1:"+s, 2, false), 1, 1)
	}
	says(t, "17.2: quoted fields", csv("\"a\",b\n\"1\",\"-inf\"\n\"\",\"nan\"\n", "a", "b"), [][]float64{{1, -endless}, {nan, nan}})
	for _, s := range []string{`"1 "`, `" "`, `"1,2"`, `""""`, `"""1"""`, `"x"`, `1"`, ` "1"`} {
		breaks(t, "17.2: "+s, csv("a\n"+s, "a"), 2, 4)
	}
	for _, s := range []string{`"1`, `"`, `"1"2`, `"1" `, `"""`, `"1""`} {
		breaks(t, "17.2: "+s, csv("a\n"+s, "a"), 2, 1)
		breaks(t, "17.2: "+s, csv(s+"\n1", "a"), 1, 1)
	}
}

// Bytes that are no UTF-8 may stand in remarks, in quotes, and in fields that nobody looks at.
func TestNoUtf8(t *testing.T) {
	for _, s := range []string{"\xff", "\xc3", "\x80\x80", "\xed\xa0\x80", "\xf5\x90\x80\x80", "é", "\x00", "1\xff", "\u0661"} {
		breaks(t, "17.1: "+s, dense("1 "+s, 2), 1, 1)
		breaks(t, "17.1: "+s, dense("1 2 # x\n"+s, 2), 2, 1)
		says(t, "17.1: "+s, dense("1 2 #"+s+"\n#"+s, 2), [][]float64{{1, 2}})
		breaks(t, "17.2: "+s, csv("a,b\n1,"+s, "a", "b"), 2, 4)
		breaks(t, "17.2: "+s, csv("a"+s+"\n1", "a"), 1, 2)
		says(t, "17.2: "+s, csv(s+",a,"+s+"\n"+s+",1,"+s+s, "a"), [][]float64{{1}})
		breaks(t, "17.3: "+s, sparse("1 1:"+s, 2, false), 1, 1)
		breaks(t, "17.3: "+s, sparse("1 2 :"+s, 2, false), 1, 1)
		says(t, "17.3: "+s, sparse("1 2:1#"+s, 2, false), [][]float64{{0, 1}}, 1)
	}
	breaks(t, "17.1: a mark of the byte order", dense("\ufeff1", 1), 1, 1)
	breaks(t, "17.2: a mark of the byte order", csv("\ufeffa\n1", "a"), 1, 2)
	breaks(t, "17.3: a mark of the byte order", sparse("\ufeff1", 1, false), 1, 1)
}

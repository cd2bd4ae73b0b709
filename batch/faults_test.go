package batch

import (
	"fmt"
	"slices"
	"strings"
	"testing"

	"thicket/api"
)

// judged is a line, the least rule that it breaks (0: none), and what it says.
type judged struct {
	line string
	rule int
	x    []float64 // none of a line that is passed over
}

// denseLines are lines for vectors of two numbers: right ones, such as break one rule, and such as break two, whichever stands ahead.
func denseLines() []judged {
	return []judged{
		{"1 2", 0, []float64{1, 2}}, {"nan -0 # x", 0, []float64{nan, minus0}}, {"", 0, nil}, {" # !", 0, nil},
		{"1 !", 1, nil}, {"1 2 \"", 1, nil}, {"1", 2, nil}, {"1 2 3", 2, nil}, {"1 x", 3, nil}, {`"1" 2`, 3, nil}, {": 2", 3, nil},
		{"! 1 2", 1, nil}, {"1 2 3 !", 1, nil}, {"!", 1, nil}, {"x !", 1, nil}, {"! x", 1, nil}, {"x", 2, nil}, {"x 2 3", 2, nil}, {"1 2 x", 2, nil}, {"x y z !", 1, nil},
	}
}

// csvLines are lines below the header a,x,b.
func csvLines() []judged {
	return []judged{
		{"1,?,2", 0, []float64{1, 2}}, {",\",\",-0", 0, []float64{nan, minus0}}, {"", 0, nil},
		{`1,"`, 1, nil}, {`1,"?"!,2`, 1, nil}, {"1,2", 3, nil}, {"1,2,3,4", 3, nil}, {" ", 3, nil}, {"1,2,z", 4, nil}, {"z,2,", 4, nil}, {"1,, ", 4, nil},
		{`z,2,3,"`, 1, nil}, {`"z,z`, 1, nil}, {`1,2,3,4,"`, 1, nil}, {"z,z", 3, nil}, {"1,2,z,", 3, nil}, {"z,z,z,z", 3, nil}, {`z,"2"2,3,4`, 1, nil},
	}
}

// sparseLines are lines for vectors of two numbers; what a line says is led by the label.
func sparseLines() []judged {
	return []judged{
		{"7 1:1 2:2", 0, []float64{7, 1, 2}}, {"nan 2:-0 # x", 0, []float64{nan, 0, minus0}}, {"\t", 0, nil}, {"# 1", 0, nil},
		{"7 1:!", 1, nil}, {"7 1:1 2", 2, nil}, {"7 1 2", 2, nil}, {"x 1:1", 3, nil}, {`"7"`, 3, nil}, {"7 3:1", 4, nil}, {"7 01:1", 4, nil}, {"7 2:2 1:1", 5, nil}, {"7 1:1 1:1", 5, nil}, {"7 1:x", 6, nil}, {`7 1:1 2:"2"`, 6, nil},
		{"7 1 !", 1, nil}, {"x !", 1, nil}, {"7 3:1 !", 1, nil}, {"7 2:2 1:1 !", 1, nil}, {"7 1:x !", 1, nil}, {"! x", 1, nil},
		{"x 1", 2, nil}, {"7 3:1 2", 2, nil}, {"7 2:2 1:1 :", 2, nil}, {"7 1:x 2", 2, nil},
		{"x 3:1", 3, nil}, {"x 2:2 1:1", 3, nil}, {"x 1:x", 3, nil},
		{"7 1:1 1:1 3:1", 4, nil}, {"7 3:1 1:1 1:1", 4, nil}, {"7 1:x 3:1", 4, nil}, {"7 3:x", 4, nil}, {"7 2:2 0:0", 4, nil},
		{"7 1:x 1:1", 5, nil}, {"7 2:2 1:x", 5, nil}, {"x 2:x 1:x 0:x", 3, nil},
	}
}

// goThrough tries all texts of one, two and three lines: the first line that breaks a rule is told, with the least rule; if there is none, all vectors are.
func goThrough(t *testing.T, what string, lines []judged, ahead int, read func(lines []string) answer, vectors func([][]float64) ([][]float64, []float64)) {
	t.Helper()
	var grow func(l []judged)
	grow = func(l []judged) {
		var texts []string
		var xs [][]float64
		var fault api.Fault
		for i, one := range l {
			texts = append(texts, one.line)
			if one.x != nil {
				xs = append(xs, one.x)
			}
			if one.rule != 0 && fault.Rule == 0 {
				fault = api.Fault{Line: ahead + i + 1, Rule: one.rule}
			}
		}
		told := fmt.Sprintf("%s: %q", what, texts)
		if a := read(texts); fault.Rule != 0 {
			breaks(t, told, a, fault.Line, fault.Rule)
		} else {
			want, labels := vectors(xs)
			says(t, told, a, want, labels...)
		}
		if len(l) < 3 {
			for _, one := range lines {
				grow(append(l[:len(l):len(l)], one))
			}
		}
	}
	grow(nil)
}

func TestFaultsOfDense(t *testing.T) {
	plain := func(l [][]float64) ([][]float64, []float64) { return l, nil }
	goThrough(t, "17.1", denseLines(), 0, func(l []string) answer { return dense(strings.Join(l, "\n"), 2) }, plain)
}

func TestFaultsOfCsv(t *testing.T) {
	plain := func(l [][]float64) ([][]float64, []float64) { return l, nil }
	goThrough(t, "17.2", csvLines(), 2, func(l []string) answer {
		return csv("\na,x,b\n"+strings.Join(l, "\n"), "a", "b")
	}, plain)
}

func TestFaultsOfSparse(t *testing.T) {
	for _, lost := range []bool{false, true} {
		parts := func(l [][]float64) ([][]float64, []float64) {
			var xs [][]float64
			var labels []float64
			for _, one := range l {
				x := slices.Clone(one[1:])
				if lost && x[0] == 0 {
					x[0] = nan // the one line that does not tell its first number
				}
				labels, xs = append(labels, one[0]), append(xs, x)
			}
			return xs, labels
		}
		goThrough(t, "17.3", sparseLines(), 0, func(l []string) answer { return sparse(strings.Join(l, "\r\n"), 2, lost) }, parts)
	}
}

// Each table has lines that break each rule.
func TestFaultsAreAll(t *testing.T) {
	for what, c := range map[string]struct {
		l     []judged
		rules []int
	}{"Dense": {denseLines(), []int{0, 1, 2, 3}}, "Csv": {csvLines(), []int{0, 1, 3, 4}}, "Sparse": {sparseLines(), []int{0, 1, 2, 3, 4, 5, 6}}} {
		var rules []int
		for _, one := range c.l {
			rules = append(rules, one.rule)
		}
		slices.Sort(rules)
		if rules = slices.Compact(rules); !slices.Equal(rules, c.rules) {
			t.Errorf("%s: rules %v", what, rules)
		}
	}
}

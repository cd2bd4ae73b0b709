package text

import (
	"math"
	"math/rand/v2"
	"reflect"
	"strings"
	"testing"

	"thicket/api"
	"thicket/rules"
	"thicket/trees"
)

const (
	left  = api.SideLeft
	right = api.SideRight
)

var (
	endless = math.Inf(1)
	minus0  = math.Copysign(0, -1)
)

func source() *rand.Rand { return rand.New(rand.NewPCG(9, 9)) }

func leafOf(v int64) api.Node { return api.Node{Kind: api.NodeLeaf, Value: v} }

func numberOf(feature int, threshold float64, missing api.Side, l, r int) api.Node {
	return api.Node{Kind: api.NodeNumber, Feature: feature, Threshold: threshold, Missing: missing, Left: l, Right: r}
}

func catsOf(feature int, missing api.Side, l, r int, cats ...int) api.Node {
	return api.Node{Kind: api.NodeCats, Feature: feature, Cats: cats, Missing: missing, Left: l, Right: r}
}

func treeOf(output int, l ...api.Node) api.Tree { return api.Tree{Output: output, Nodes: l} }

// lined is a text of lines, given with " / " between.
func lined(s string) []string { return strings.Split(s, " / ") }

// joined has an LF behind each line.
func joined(l []string) string {
	if len(l) == 0 {
		return ""
	}
	return strings.Join(l, "\n") + "\n"
}

// with has another line, of that number from 1 on.
func with(l []string, number int, line string) []string {
	l = append([]string(nil), l...)
	l[number-1] = line
	return l
}

// example is the chapter's T.
func example() []string {
	return lined("thicket 1 / name m / outputs 1 / base 0.5 / features 2 / feature a / feature b / trees 1 / tree 0 3 / split a <= 0.5 to 1 2 missing left / leaf 1 / leaf -2.25 / end")
}

// exampleModel is what T says.
func exampleModel() api.Ensemble {
	return api.Ensemble{Name: "m", Features: []string{"a", "b"}, Outputs: 1, Base: []int64{500000}, Trees: []api.Tree{treeOf(0, numberOf(0, 0.5, left, 1, 2), leafOf(1000000), leafOf(-2250000))}}
}

// wide is a text that has every kind of line, splits and leaves in the middle of a tree and as its last one too. Its third tree is none.
func wide() []string {
	return lined("thicket 1 / name w.2-x / outputs 2 / base -0.5 7 / features 3 / feature a / feature 9 / feature in / trees 4 / " +
		"tree 1 5 / split a <= -0 to 4 1 missing right / leaf 1 / leaf 2 / leaf 3 / split in in 0 7 1023 to 2 3 missing left / " +
		"tree 0 1 / leaf -2 / tree 1 3 / leaf 0.5 / leaf 1 / leaf 2 / tree 0 3 / split 9 <= inf to 2 1 missing left / leaf 5 / leaf 4 / end")
}

// rightWide is wide with a third tree that is one.
func rightWide() []string {
	return with(wide(), 19, "split 9 in 3 to 1 2 missing right")
}

func rightWideModel() api.Ensemble {
	return api.Ensemble{Name: "w.2-x", Features: []string{"a", "9", "in"}, Outputs: 2, Base: []int64{-500000, 7000000}, Trees: []api.Tree{
		treeOf(1, numberOf(0, minus0, right, 4, 1), leafOf(1000000), leafOf(2000000), leafOf(3000000), catsOf(2, left, 2, 3, 0, 7, 1023)),
		treeOf(0, leafOf(-2000000)),
		treeOf(1, catsOf(1, right, 1, 2, 3), leafOf(1000000), leafOf(2000000)),
		treeOf(0, numberOf(1, endless, left, 2, 1), leafOf(5000000), leafOf(4000000)),
	}}
}

// refused asks that Parse and Dump tell this fault, and nothing else.
func refused(t *testing.T, what, s string, line, rule int) {
	t.Helper()
	want := api.Fault{Line: line, Rule: rule}
	if e, why, f := Parse(s); why != api.ErrLine || f != want || !reflect.DeepEqual(e, api.Ensemble{}) {
		t.Errorf("9.1: %s: %v, %d, %v; not %v", what, e, why, f, want)
	}
	if d, why, f := Dump(s); why != api.ErrLine || f != want || d != "" {
		t.Errorf("9.3: %s: %q, %d, %v; not %v", what, d, why, f, want)
	}
}

// taken asks that Parse says this ensemble, and that it is a right one.
func taken(t *testing.T, what, s string, want api.Ensemble) {
	t.Helper()
	e, why, f := Parse(s)
	if why != api.OK || f != (api.Fault{}) || !trees.Same(e, want) {
		t.Errorf("9.1: %s: %v, %d, %v", what, e, why, f)
	}
	if !rules.Valid(e) {
		t.Errorf("9.5: %s: %s", what, rules.Say(rules.Check(e)))
	}
}

func TestExamples(t *testing.T) {
	s := joined(example())
	taken(t, "T", s, exampleModel())
	if d, why, f := Dump(s); d != s || why != api.OK || f != (api.Fault{}) {
		t.Errorf("9.3: Dump(T) = %q, %d, %v", d, why, f)
	}
	turned := with(example(), 10, "split a <= 0.5 to 2 1 missing left")
	want := example()
	want[10], want[11] = want[11], want[10]
	if d, why, f := Dump(joined(turned)); d != joined(want) || why != api.OK || f != (api.Fault{}) {
		t.Errorf("9.3: leaves are not exchanged: %q, %d, %v", d, why, f)
	}
	e := exampleModel()
	e.Trees[0].Nodes[0].Left, e.Trees[0].Nodes[0].Right = 2, 1
	taken(t, "9.1: nodes as they are numbered", joined(turned), e)
	taken(t, "all kinds of lines", joined(rightWide()), rightWideModel())
}

func TestFaultsOfTheExamples(t *testing.T) {
	refused(t, "nothing", "", 1, 2)
	refused(t, "without end", joined(example()[:12]), 13, 2)
	for _, c := range []struct {
		at   int
		text string
		line int
		rule int
	}{
		{13, "end now", 13, 3}, {13, "end\nx", 14, 2}, {3, "outputs 01", 3, 4}, {3, "outputs 0", 3, 8}, {4, "base 0.5 1", 4, 9}, {4, "base x", 4, 3}, {4, "base 0.1234567", 4, 5},
		{7, "feature a", 7, 10}, {7, `feature "b"`, 7, 3}, {10, "split c <= nan to 1 9 missing left", 10, 6}, {10, "split a in 3 1 to 1 2 missing left", 10, 11},
		{10, "split a <= 0.5 to 1 1 missing left", 12, 12}, {4, "base 4611686018427.387904", 4, 13},
	} {
		refused(t, c.text, joined(with(example(), c.at, c.text)), c.line, c.rule)
	}
	l := with(with(with(example(), 4, "base 4611686018427.387901"), 11, "leaf 0.000002"), 12, "leaf 0.000003")
	refused(t, "a room that is full", joined(l), 12, 13)
	if _, why, _ := Parse(joined(with(l, 12, "leaf 0.000002"))); why != api.OK {
		t.Error("9.1: a room that is not full yet:", why)
	}
	refused(t, "nodes that are no tree", joined(wide()), 21, 12)
}

// A text that ends too early is told behind its last line, whatever that is.
func TestEarlyEnds(t *testing.T) {
	for _, l := range [][]string{example(), rightWide()} {
		for n := range l {
			for behind, more := range map[string]int{"": 0, "\n": 1, "\n\r\n": 2, "# end\n": 1, " \t": 1, "\r\r  # x\r": 3} {
				refused(t, "too few lines", joined(l[:n])+behind, n+more+1, 2)
			}
			if n > 0 {
				refused(t, "a last line without its end", strings.Join(l[:n], "\r\n"), n+1, 2)
			}
		}
	}
}

// Behind end nothing stands but blank lines and remarks.
func TestBehindTheEnd(t *testing.T) {
	for _, l := range [][]string{example(), rightWide()} {
		s, n := joined(l), len(l)
		want, _, _ := Parse(s)
		for _, behind := range []string{"\n", "\r\n \t\n", "# x", "  # end\n\n", "#\x00\xff\"\n"} {
			taken(t, "blank lines behind end", s+behind, want)
		}
		taken(t, "end without its end", strings.TrimSuffix(s, "\n"), want)
		for _, line := range append(l, "x", "end", "thicket 1", "leaf 1", "1", "<=", `"end"`, "tree 0 1 2") {
			refused(t, "a line behind end", s+line, n+1, 2)
			refused(t, "a line behind end", s+"\n# x\n"+line+"\n?\n", n+3, 2)
		}
		for _, line := range []string{"?", `"`, "end !", "é", strings.Repeat("x", api.MaxLine+1)} {
			refused(t, "no words behind end", s+line, n+1, 1)
		}
	}
}

func TestLinesOutOfTheirOrder(t *testing.T) {
	l := rightWide()
	for i := range l {
		missing := append(append([]string(nil), l[:i]...), l[i+1:]...)
		twice := append(append([]string(nil), l[:i+1]...), l[i:]...)
		for what, m := range map[string][]string{"a line is missing": missing, "a line stands twice": twice} {
			judgedByWords(t, what, joined(m))
		}
		for j := i + 1; j < len(l); j++ {
			judgedByWords(t, "two lines are exchanged", joined(with(with(l, i+1, l[j]), j+1, l[i])))
		}
	}
	for i, line := range l[:9] { // the head's lines, each where another one is expected
		for j := range l {
			if first := strings.Fields(line)[0]; !strings.HasPrefix(l[j], first+" ") {
				refused(t, "another line", joined(with(l, j+1, line)), j+1, 2)
			}
		}
		refused(t, "a capital", joined(with(l, i+1, strings.ToUpper(line[:1])+line[1:])), i+1, 2)
	}
}

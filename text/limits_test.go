package text

import (
	"slices"
	"strconv"
	"strings"
	"testing"

	"thicket/api"
	"thicket/rules"
	"thicket/trees"
)

// numbered are so many lines, each a word, a blank and what is said of its number.
func numbered(many int, line func(int) string) []string {
	l := make([]string, many)
	for i := range l {
		l[i] = line(i)
	}
	return l
}

// whole asks that a text is taken, is its own dump, and says a right ensemble.
func whole(t *testing.T, what string, l []string) api.Ensemble {
	t.Helper()
	s := joined(l)
	e, why, f := Parse(s)
	if why != api.OK || f != (api.Fault{}) || !rules.Valid(e) {
		t.Errorf("9.1, 9.5: %s: %d, %v", what, why, f)
	}
	if d, why := Print(e); why != api.OK || d != s {
		t.Errorf("9.2, 9.5: %s: %d", what, why)
	}
	return e
}

func TestManyFeatures(t *testing.T) {
	features := numbered(api.MaxFeatures, func(i int) string { return "feature f" + strconv.Itoa(i) })
	last := "f" + strconv.Itoa(api.MaxFeatures-1)
	l := slices.Concat(lined("thicket 1 / name m / outputs 1 / base 0 / features "+strconv.Itoa(api.MaxFeatures)), features, lined("trees 1 / tree 0 3 / split "+last+" <= 1 to 1 2 missing left / leaf 1 / leaf 2 / end"))
	if e := whole(t, "MaxFeatures", l); len(e.Features) != api.MaxFeatures || e.Trees[0].Nodes[0].Feature != api.MaxFeatures-1 {
		t.Error("9.1: not all features came")
	}
	refused(t, "the first feature's name at the last one", joined(with(l, 5+api.MaxFeatures, "feature f0")), 5+api.MaxFeatures, 10)
	refused(t, "a feature behind them", joined(slices.Insert(slices.Clone(l), 5+api.MaxFeatures, "feature more")), 6+api.MaxFeatures, 2)
	refused(t, "MaxFeatures + 1", joined(with(l, 5, "features "+strconv.Itoa(api.MaxFeatures+1))), 5, 8)
}

func TestManyTrees(t *testing.T) {
	trees := slices.Repeat([]string{"tree 0 1", "leaf 1"}, api.MaxTrees)
	l := slices.Concat(lined("thicket 1 / name m / outputs 1 / base 0 / features 1 / feature a / trees "+strconv.Itoa(api.MaxTrees)), trees, []string{"end"})
	if e := whole(t, "MaxTrees", l); len(e.Trees) != api.MaxTrees {
		t.Error("9.1: not all trees came")
	}
	refused(t, "a tree behind them", joined(slices.Insert(slices.Clone(l), len(l)-1, "tree 0 1", "leaf 1")), len(l), 2)
	refused(t, "MaxTrees + 1", joined(with(l, 7, "trees "+strconv.Itoa(api.MaxTrees+1))), 7, 8)
	refused(t, "a tree too few", joined(slices.Delete(slices.Clone(l), 7, 9)), len(l)-2, 2)
}

// The nodes of a tree with MaxLeaves leaves, all on one way.
func TestManyNodes(t *testing.T) {
	const nodes = 2*api.MaxLeaves - 1
	lines := numbered(nodes, func(i int) string {
		if i%2 == 1 || i == nodes-1 {
			return "leaf 1"
		}
		return "split a <= " + strconv.Itoa(i) + " to " + strconv.Itoa(i+1) + " " + strconv.Itoa(i+2) + " missing right"
	})
	l := slices.Concat(lined("thicket 1 / name m / outputs 1 / base 0 / features 1 / feature a / trees 1 / tree 0 "+strconv.Itoa(nodes)), lines, []string{"end"})
	e := whole(t, "MaxLeaves", l)
	if leaves, why := trees.Leaves(e.Trees[0]); why != api.OK || len(leaves) != api.MaxLeaves {
		t.Error("9.1: not all leaves came")
	}
	refused(t, "2 MaxLeaves", joined(with(l, 8, "tree 0 "+strconv.Itoa(nodes+1))), 8, 8)
	refused(t, "a node behind them", joined(with(l, len(l), "leaf 1")), len(l), 2)
	refused(t, "the last node's number and one more", joined(with(l, 7+nodes-1, "split a <= 0 to "+strconv.Itoa(nodes-2)+" "+strconv.Itoa(nodes)+" missing left")), 7+nodes-1, 8)
	refused(t, "a ring at the end", joined(with(l, 7+nodes-1, "split a <= 0 to "+strconv.Itoa(nodes-2)+" "+strconv.Itoa(nodes-3)+" missing left")), 8+nodes, 12)
}

func TestManyOutputs(t *testing.T) {
	base := "base" + strings.Repeat(" 1", api.MaxOutputs)
	l := lined("thicket 1 / name m / outputs 64 / " + base + " / features 1 / feature a / trees 1 / tree 63 1 / leaf 1 / end")
	whole(t, "MaxOutputs", l)
	refused(t, "MaxOutputs + 1", joined(with(l, 3, "outputs 65")), 3, 8)
	refused(t, "one more in base", joined(with(l, 4, base+" 1")), 4, 9)
	refused(t, "one fewer in base", joined(with(l, 4, base[2:])), 4, 2)
	refused(t, "one fewer in base", joined(with(l, 4, strings.TrimSuffix(base, " 1"))), 4, 9)
	refused(t, "no such output", joined(with(l, 8, "tree 64 1")), 8, 8)
	refused(t, "room of the last output", joined(with(l, 4, base[:len(base)-1]+"4611686018427.387903")), 9, 13)
}

func TestManyCategories(t *testing.T) {
	all := counted(slices.Collect(func(yield func(int) bool) {
		for c := range api.MaxCats {
			if !yield(c) {
				return
			}
		}
	}))
	l := with(example(), 10, "split a in "+all+" to 1 2 missing left")
	if e := whole(t, "MaxCats", l); len(e.Trees[0].Nodes[0].Cats) != api.MaxCats {
		t.Error("9.1: not all categories came")
	}
	refused(t, "MaxCats", joined(with(l, 10, "split a in "+all+" 1024 to 1 2 missing left")), 10, 8)
	refused(t, "the last one again", joined(with(l, 10, "split a in "+all+" 1023 to 1 2 missing left")), 10, 11)
	refused(t, "the first one again", joined(with(l, 10, "split a in "+all+" 0 to 1 2 missing left")), 10, 11)
}

// A word of MaxLine bytes is one, whatever it is then; a longer one is none.
func TestLongWords(t *testing.T) {
	for words, rule := range map[string]int{"name ": 7, "": 2, "name x ": 3, "name ?": 1} {
		refused(t, "MaxLine bytes", joined(with(example(), 2, words+strings.Repeat("x", api.MaxLine))), 2, rule)
		refused(t, "more", joined(with(example(), 2, words+strings.Repeat("x", api.MaxLine+1))), 2, 1)
	}
	far := strings.Repeat(" ", 3*api.MaxLine)
	taken(t, "a long line of blanks", joined(with(example(), 2, "name"+far+"m"+far+"#"+strings.Repeat("x", api.MaxLine+1))), exampleModel())
}

// An output's room is told where it gets full: at base, or at the last node of the tree that fills it, and only of its own output.
func TestRooms(t *testing.T) {
	text := func(base string, leaves ...string) []string {
		l := lined("thicket 1 / name m / outputs 2 / base " + base + " / features 1 / feature a / trees " + strconv.Itoa(len(leaves)))
		for i, v := range leaves {
			l = append(l, "tree "+strconv.Itoa(i%2)+" 3", "split a <= 1 to 1 2 missing left", "leaf "+v, "leaf 0.000001")
		}
		return append(l, "end")
	}
	const most, half, over = "4611686018427.387903", "2305843009213.693952", "4611686018427.387904"
	for _, c := range []struct {
		line   int
		base   string
		leaves []string
	}{
		{0, most + " " + most, nil}, {0, "-" + most + " -" + most, nil}, {4, over + " 0", nil}, {4, "0 " + over, nil}, {4, "0 -" + over, nil}, {4, "-9223372036854.775808 0", nil},
		{0, "0 0", []string{half, half}}, {19, "0 0", []string{half, "0", half}}, {0, "0 0", []string{half, "0", "-2305843009213.693951"}}, {19, "0 0", []string{half, "0", "-" + half}},
		{11, "0 0", []string{over}}, {11, "0 0", []string{"-9223372036854.775808", "9223372036854.775807"}}, {15, "0 0", []string{"0", over, over}},
		{0, "-4611686018427.387902 0", []string{"0.000001"}}, {11, "-4611686018427.387902 0", []string{"0.000002"}}, {11, most + " 0", []string{"0"}}, {15, "0 -" + most, []string{"7", "0"}},
		{0, "0 0.000001", []string{half, half, "2305843009213.693951", "2305843009213.69395"}}, {23, "0 0.000001", []string{half, half, "2305843009213.693951", "2305843009213.693951"}},
	} {
		s := joined(text(c.base, c.leaves...))
		if judged := faultByWords(s); judged.Line != c.line {
			t.Fatal("a second opinion:", judged, c)
		}
		if c.line > 0 {
			refused(t, c.base+": "+strings.Join(c.leaves, " "), s, c.line, 13)
		} else if _, why, f := Parse(s); why != api.OK {
			t.Errorf("9.1: room is left: %v: %v", c, f)
		}
	}
}

// Every way to number the kids of a tree of two inner nodes, as they stand at any place.
func TestAllKids(t *testing.T) {
	for root := range 2 {
		for other := 1; other < 5; other++ {
			for kids := range 4 * 4 * 4 * 4 {
				l := slices.Repeat([]string{"leaf 1"}, 5)
				split := func(k int) string {
					return "split a <= 1 to " + strconv.Itoa(k%4+1) + " " + strconv.Itoa(k/4%4+1) + " missing left"
				}
				if root == 0 {
					l[0] = split(kids)
				}
				l[other] = split(kids / 16)
				judgedByWords(t, "nodes", joined(slices.Concat(lined("thicket 1 / name m / outputs 1 / base 0 / features 1 / feature a / trees 1 / tree 0 5"), l, []string{"end"})))
			}
		}
	}
}

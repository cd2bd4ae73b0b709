package foreign

import (
	"slices"
	"strconv"
	"strings"
	"testing"

	"thicket/api"
	"thicket/rules"
	"thicket/trees"
)

// again is a word so many times, with blanks between.
func again(word string, many int) string {
	return strings.TrimSuffix(strings.Repeat(word+" ", many), " ")
}

// counted are numbers with blanks between, from one up to another, that one not counted.
func counted(from, to int) string {
	var b strings.Builder
	for i := from; i < to; i++ {
		b.WriteString(strconv.Itoa(i) + " ")
	}
	return strings.TrimSuffix(b.String(), " ")
}

// chain is a text of a tree with so many leaves, each inner node to the left or to the right below the one ahead.
func chain(leaves int, toLeft bool) string {
	next, leaf := counted(1, leaves-1)+" "+strconv.Itoa(-leaves), ""
	for c := 1; c < leaves; c++ {
		leaf += " " + strconv.Itoa(-c)
	}
	children := []string{next, leaf}
	if !toLeft {
		children = []string{leaf, next}
	}
	return joined([]string{"tree", "num_class=1", "feature_names=a", "Tree=0", "num_leaves=" + strconv.Itoa(leaves), "split_feature=" + again("0", leaves-1), "threshold=" + counted(0, leaves-1), "decision_type=" + again("10", leaves-1),
		"left_child=" + children[0], "right_child=" + children[1], "leaf_value=" + counted(0, leaves), "end of trees"})
}

func TestLimitOfLeaves(t *testing.T) {
	for _, toLeft := range []bool{true, false} {
		s := chain(api.MaxLeaves, toLeft)
		e, why, row := Read(s, "m")
		if why != api.OK || row != 0 || !rules.Valid(e) || len(e.Trees[0].Nodes) != 2*api.MaxLeaves-1 {
			t.Fatalf("11.1: MaxLeaves leaves: %d at %d", why, row)
		}
		if depth, _ := trees.Depth(e.Trees[0]); depth != api.MaxLeaves-1 {
			t.Error("11.1: no chain, but of depth", depth)
		}
		w, why := Write(e)
		if why != api.OK {
			t.Fatal("11.2: MaxLeaves leaves:", why)
		}
		taken(t, "11.4: MaxLeaves leaves", w, e)
		refused(t, "one leaf more", chain(api.MaxLeaves+1, toLeft), api.ErrForeign, 5)
		judgedByWords(t, "MaxLeaves leaves", s)
	}
}

func TestLimitOfOutputs(t *testing.T) {
	text := func(many int) string {
		return joined([]string{"tree", "num_class=" + strconv.Itoa(many), "num_tree_per_iteration=" + strconv.Itoa(many), "feature_names=a", "end of trees"})
	}
	taken(t, "MaxOutputs outputs", text(api.MaxOutputs), api.Ensemble{Name: "m", Features: []string{"a"}, Outputs: api.MaxOutputs, Base: make([]int64, api.MaxOutputs)})
	refused(t, "one output more", text(api.MaxOutputs+1), api.ErrForeign, 2)
	refused(t, "far more", text(9999999999), api.ErrForeign, 2)
}

// Features are counted by the rules; so a split on one beyond the limit is no fault of its own, and other faults come first.
func TestLimitOfFeatures(t *testing.T) {
	text := func(many int, feature int, lefts string) string {
		names := "f" + strings.ReplaceAll(counted(0, many), " ", " f")
		return joined([]string{"tree", "num_class=1", "feature_names=" + names, "Tree=0", "num_leaves=2", "split_feature=" + strconv.Itoa(feature), "threshold=1", "decision_type=8", "left_child=" + lefts, "right_child=-2", "leaf_value=1 2", "end of trees"})
	}
	e, why, row := Read(text(api.MaxFeatures, api.MaxFeatures-1, "-1"), "m")
	if why != api.OK || row != 0 || len(e.Features) != api.MaxFeatures || e.Trees[0].Nodes[0].Feature != api.MaxFeatures-1 || e.Features[api.MaxFeatures-1] != "f65535" {
		t.Fatalf("11.1: MaxFeatures features: %d at %d", why, row)
	}
	w, why := Write(e)
	if why != api.OK || !strings.Contains(w, "\nmax_feature_idx=65535\n") {
		t.Error("11.2: MaxFeatures features:", why)
	}
	taken(t, "11.4: MaxFeatures features", w, e)
	refused(t, "a split beyond them", text(api.MaxFeatures, api.MaxFeatures, "-1"), api.ErrForeign, 6)
	for _, feature := range []int{0, api.MaxFeatures - 1, api.MaxFeatures} {
		refused(t, "one feature more", text(api.MaxFeatures+1, feature, "-1"), api.ErrModel, 0)
		refused(t, "one feature more, and children that are no tree", text(api.MaxFeatures+1, feature, "-2"), api.ErrForeign, 9)
	}
}

func TestLimitOfTrees(t *testing.T) {
	text := func(many int, value string) string {
		var b strings.Builder
		b.WriteString("tree\nnum_class=2\nfeature_names=a\n")
		for k := range many {
			b.WriteString("Tree=" + strconv.Itoa(k) + "\nnum_leaves=1\nleaf_value=" + value + "\n")
		}
		return b.String() + "end of trees\n"
	}
	e, why, row := Read(text(api.MaxTrees, "1"), "m")
	if why != api.OK || row != 0 || len(e.Trees) != api.MaxTrees || e.Trees[api.MaxTrees-1].Output != 1 {
		t.Fatalf("11.1: MaxTrees trees: %d at %d", why, row)
	}
	w, why := Write(e)
	if o, _, _ := Read(w, "m"); why != api.OK || !trees.Same(e, o) {
		t.Error("11.4: MaxTrees trees:", why)
	}
	refused(t, "one tree more", text(api.MaxTrees+1, "1"), api.ErrModel, 0)
	refused(t, "one tree more, and a fault in it", strings.Replace(text(api.MaxTrees+1, "1"), "=1\nend", "=x\nend", 1), api.ErrFixed, 3+3*(api.MaxTrees+1))
	// No room is full, though the sums of both outputs together would be.
	if _, why, _ := Read(text(api.MaxTrees, "140737488.355327"), "m"); why != api.OK {
		t.Error("11.1: two rooms that are almost full:", why)
	}
	refused(t, "two rooms that are full", text(api.MaxTrees, "140737488.355328"), api.ErrModel, 0)
}

// sets is S with these boundaries and words.
func sets(boundaries, words string) string {
	return joined(with(with(example(), 13, "cat_boundaries="+boundaries), 14, "cat_threshold="+words))
}

func TestLimitOfCategories(t *testing.T) {
	for _, c := range []struct {
		many  int
		words string
		cats  []int
	}{
		{1, "1", []int{0}}, {1, "2147483648", []int{31}}, {1, "4294967295", upTo(32)}, {2, "0 1", []int{32}}, {2, "2147483648 1", []int{31, 32}}, {2, "1 2147483648", []int{0, 63}}, {3, "2 0 0", []int{1}},
		{32, again("0", 31) + " 2147483648", []int{1023}}, {32, again("0", 31) + " 1", []int{992}}, {32, again("4294967295", 32), upTo(1024)}, {33, again("0", 31) + " 2147483648 0", []int{1023}}, {1000, "8 " + again("0", 999), []int{3}},
	} {
		s := sets("0 "+strconv.Itoa(c.many), c.words)
		if n := node(t, c.words, s, 1); !slices.Equal(n.Cats, c.cats) {
			t.Errorf("11.1: %s: %v", c.words, n.Cats)
		}
		judgedByWords(t, "categories", s)
	}
	refused(t, "the first category beyond", sets("0 33", again("0", 32)+" 1"), api.ErrForeign, 14)
	refused(t, "beyond, and one that may be", sets("0 33", "1 "+again("0", 31)+" 1"), api.ErrForeign, 14)
	refused(t, "far beyond", sets("0 1000", again("0", 999)+" 2147483648"), api.ErrForeign, 14)
	refused(t, "none, of many words", sets("0 1000", again("0", 1000)), api.ErrForeign, 14)
	refused(t, "a word beyond", sets("0 1", "4294967296"), api.ErrForeign, 14)
	refused(t, "a boundary beyond", sets("0 9999999999", "1"), api.ErrForeign, 14)
	refused(t, "a boundary with eleven digits", sets("0 10000000000", "1"), api.ErrForeign, 13)
}

// Many nodes may ask for one set; it is gone through once, however long it is.
func TestOneSetOfManyNodes(t *testing.T) {
	l := lined(strings.ReplaceAll(strings.TrimSuffix(chain(api.MaxLeaves, true), "\n"), "\n", " / "))
	l[6] = "threshold=" + again("0", api.MaxLeaves-1)
	l[7] = "decision_type=" + again("1", api.MaxLeaves-1)
	l = slices.Insert(l, 10, "num_cat=1", "cat_boundaries=0 2000000", "cat_threshold=6 "+again("0", 1999999))
	e, why, row := Read(joined(l), "m")
	if why != api.OK || row != 0 {
		t.Fatalf("11.1: one set of many nodes: %d at %d", why, row)
	}
	for i, n := range e.Trees[0].Nodes {
		if n.Kind == api.NodeCats && (!slices.Equal(n.Cats, []int{1, 2}) || n.Missing != right) {
			t.Fatalf("11.1: one set of many nodes: node %d is %v", i, n)
		}
	}
	all := roomsOf(e)
	if !apart(all...) {
		t.Error("11.3: nodes share their categories")
	}
}

// Counts have ten digits at most.
func TestDigits(t *testing.T) {
	for _, c := range []struct {
		row  int
		text string
		at   int
	}{
		{2, "num_class=0000000001", 2}, {2, "num_class=9999999999", 2}, {2, "num_class=10000000000", 2}, {5, "num_leaves=9999999999", 5}, {5, "num_leaves=00000000003", 5}, {7, "split_feature=1 9999999999", 7}, {7, "split_feature=1 4294967296", 7}, {7, "split_feature=1 18446744073709551616", 7},
		{8, "threshold=0.5 9999999999", 8}, {8, "threshold=0.5 4294967296", 8}, {8, "threshold=0.5 18446744073709551616", 8}, {9, "decision_type=10 4294967305", 9}, {10, "left_child=4294967297 -1", 10}, {10, "left_child=1 -4294967297", 10}, {6, "num_cat=9999999999", 13}, {6, "num_cat=10000000000", 6}, {6, "num_cat=4294967297", 13},
		{13, "cat_boundaries=0 9999999999", 14}, {13, "cat_boundaries=0 4294967297", 14}, {4, "Tree=4294967296", 4}, {4, "Tree=9999999999", 4}, {4, "Tree=0000000000", 4},
	} {
		s := joined(with(example(), c.row, c.text))
		refused(t, c.text, s, api.ErrForeign, c.at)
		judgedByWords(t, c.text, s)
	}
}

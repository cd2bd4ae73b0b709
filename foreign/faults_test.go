package foreign

import (
	"slices"
	"strconv"
	"strings"
	"testing"

	"thicket/api"
)

// flaw is a row of the wide text that is written otherwise, the error that this is, the row at which it is told, and how early: of two flaws the one with the lesser rank is told.
type flaw struct {
	row  int
	text string
	why  api.Errno
	told int
	rank []int
}

// The ranks' first numbers.
const (
	ofRows = iota
	ofHeader
	ofSections
	ofRules
)

// Within a section.
const (
	ofKeys = iota
	ofNodes
	ofTree
)

// wrongCounts are words that are no count.
func wrongCounts() []string {
	return []string{"", "x", "+1", "-1", "-0", "00", "01", "1.0", "1e0", "0x1", "1_0", "１", "99999999999", "00000000001", "18446744073709551617", "1\t", "1,", "1 1 1 1 1", "\x00"}
}

// rowFlaws are wrong as rows are.
func rowFlaws() []flaw {
	var l []flaw
	add := func(row int, text string, told int) {
		l = append(l, flaw{row, text, api.ErrForeign, told, []int{ofRows, told}})
	}
	for _, text := range []string{"Tree", "tree ", " tree", "trees", "tree=", "tree\t", "\ufefftree", "end of trees", "num_class=2", "x", "=", "\x00"} {
		add(2, text, 2)
	}
	add(1, "x", 1)
	add(1, "end of trees", 1)
	add(1, "x=1", 1)
	for _, row := range []int{3, 7, 8, 13, 19, 20, 23, 26, 32, 33} {
		for _, text := range []string{"x", "tree", "end of trees ", " end of trees", "End of trees", "\v", "\x00", "é", "num_leaves", ":"} {
			add(row, text, row)
		}
	}
	add(33, "", 34)
	add(33, " \t", 34)
	add(33, "end of trees=", 34)
	add(33, "x=", 34)
	for _, key := range []string{"num_class", "num_tree_per_iteration", "feature_names"} {
		add(7, key+"=", 7)
	}
	for _, key := range []string{"num_leaves", "num_cat", "split_feature", "threshold", "decision_type", "left_child", "right_child", "leaf_value", "cat_boundaries", "cat_threshold"} {
		add(19, key+"=", 19)
	}
	add(23, "leaf_value=-7", 23)
	add(23, "num_leaves=x", 23)
	add(32, "right_child=-1", 32)
	return l
}

// headerFlaws are wrong in the header.
func headerFlaws() []flaw {
	var l []flaw
	add := func(row int, text string, told, order int) {
		l = append(l, flaw{row, text, api.ErrForeign, told, []int{ofHeader, order}})
	}
	add(4, "", 8, 0)
	add(4, "num_classes=2", 8, 0)
	add(4, " num_class=2", 8, 0)
	for _, word := range append(wrongCounts(), "0", "65", "9999999999", "2 2", "2 0", "=2") {
		add(4, "num_class="+word, 4, 0)
	}
	for _, word := range append(wrongCounts(), "0", "1", "3", "65", "2 2", "02", "=2") {
		add(5, "num_tree_per_iteration="+word, 5, 1)
	}
	add(6, "", 8, 2)
	add(6, "Feature_names=a b c", 8, 2)
	for _, words := range []string{"", "  ", "a b c a", "a a", "c b c", "a b c d,", "a b c é", "a b c=", "a b c\td", "\ta", "a \"b\" c", "a b c " + strings.Repeat("n", api.MaxName+1), "a b c \x00", "a b c #", "a:b"} {
		add(6, "feature_names="+words, 6, 2)
	}
	return l
}

// keyFlaws are wrong in a section's keys, of which there is one of every kind in the first section.
func keyFlaws() []flaw {
	var l []flaw
	add := func(row int, value string, order int) {
		key, _, _ := strings.Cut(wide()[row-1], "=")
		why := api.ErrForeign
		if order == 2 && strings.Contains(value, "?") {
			why = api.ErrFixed
		}
		l = append(l, flaw{row, key + "=" + value, why, row, []int{ofSections, 0, ofKeys, order}})
	}
	missing := func(row, order int) {
		l = append(l, flaw{row, "", api.ErrForeign, 8, []int{ofSections, 0, ofKeys, order}})
	}
	for _, word := range append(wrongCounts(), "1", "2", "0 0") {
		add(8, word, 0)
	}
	for _, word := range append(wrongCounts(), "0", "4097", "9999999999", "4 4") {
		add(9, word, 1)
	}
	for _, words := range []string{"", "1 2 3", "1 2 3 4 5", "1 2 3 ?", "? ? ? ?", "1,2,3,4"} {
		add(16, words, 2)
	}
	for _, word := range append(wrongCounts(), "3", "9999999999", "0 0") {
		for _, words := range []string{"1 0 " + word, "1 " + word + " 2", word + " 0 2"} {
			add(11, words, 3)
		}
	}
	for _, words := range []string{"", "0.5 1", "0.5 1 0 0", "x x x x"} {
		add(12, words, 4)
	}
	for _, word := range append(wrongCounts(), "16", "9999999999", "9 9") {
		for _, words := range []string{"10 9 " + word, word + " 9 1"} {
			add(13, words, 5)
		}
	}
	for _, word := range []string{"", "3", "-5", "-0", "-00", "-01", "01", "--1", "- 1", "+1", "x", "-x", "1.0", "99999999999", "-99999999999", "9999999999", "-9999999999", "1 1", "\t1", "−1"} {
		add(14, "2 -1 "+word, 6)
		add(15, word+" -2 -4", 7)
	}
	for _, word := range append(wrongCounts(), "2 2", "99999999999") {
		add(10, word, 8)
	}
	for _, words := range []string{"", "0 1", "0 1 3 4", "1 1 3", "1 2 3", "0 0 3", "0 3 3", "0 3 1", "0 1 x", "0 01 3", "0 1 99999999999", "00 1 3", "0 1 -3", "0 1 3\t"} {
		add(17, words, 9)
	}
	for _, words := range []string{"", "11 0", "11 0 1 1", "11 0 4294967296", "11 9999999999 1", "11 0 99999999999", "11 -0 1", "011 0 1", "11 0 x", "11 0x0 1", "11 0 1\t"} {
		add(18, words, 10)
	}
	for row, order := range map[int]int{9: 1, 16: 2, 11: 3, 12: 4, 13: 5, 14: 6, 15: 7, 17: 9, 18: 10} {
		missing(row, order)
	}
	return l
}

// nodeFlaws are wrong in inner nodes, and in what they are together.
func nodeFlaws() []flaw {
	var l []flaw
	add := func(row int, value string, why api.Errno, rank ...int) {
		key, _, _ := strings.Cut(wide()[row-1], "=")
		l = append(l, flaw{row, key + "=" + value, why, row, append([]int{ofSections, 0}, rank...)})
	}
	for _, d := range []string{"4", "5", "6", "7"} {
		add(13, d+" 9 1", api.ErrCannot, ofNodes, 0, 0)
		add(13, "10 "+d+" 1", api.ErrCannot, ofNodes, 1, 0)
		add(13, "10 9 "+d, api.ErrCannot, ofNodes, 2, 0)
		add(13, "10 "+d+" 12", api.ErrCannot, ofNodes, 1, 0)
	}
	for _, d := range []string{"12", "13", "14", "15"} {
		add(13, d+" 9 1", api.ErrForeign, ofNodes, 0, 0)
		add(13, "10 "+d+" 5", api.ErrForeign, ofNodes, 1, 0)
		add(13, "10 9 "+d, api.ErrForeign, ofNodes, 2, 0)
	}
	for _, word := range []string{"x", "nan", "+1", "1.", "0x1", "-nan"} {
		add(12, word+" 1 0", api.ErrForeign, ofNodes, 0, 1)
	}
	for _, word := range []string{"2", "x", "-0", "-1", "00", "01", "1.0", "1e0", "inf", "9999999999", "99999999999", "0.5"} {
		add(12, "0.5 "+word+" 0", api.ErrForeign, ofNodes, 1, 1)
		add(12, "0.5 1 "+word, api.ErrForeign, ofNodes, 2, 1)
	}
	// The second node has the second set.
	add(18, "11 0 0", api.ErrForeign, ofNodes, 1, 2)
	add(18, "0 1 0", api.ErrForeign, ofNodes, 2, 2)
	add(18, "0 0 0", api.ErrForeign, ofNodes, 1, 2)
	l = append(l, flaw{10, "num_cat=0", api.ErrForeign, 12, []int{ofSections, 0, ofNodes, 1, 1}})
	l = append(l, flaw{10, "", api.ErrForeign, 12, []int{ofSections, 0, ofNodes, 1, 1}})
	for _, words := range []string{"2 -1 -1", "2 -1 -4", "2 -1 2", "2 -1 0", "0 -1 -3", "1 -1 -3", "2 -2 -3", "2 1 -3", "-1 -1 -3", "-3 -1 2", "2 -1 1"} {
		add(14, words, api.ErrForeign, ofTree)
	}
	for _, words := range []string{"1 -2 -3", "1 -2 1", "1 -1 -4", "-4 -2 -4", "0 -2 -4", "2 -2 -4"} {
		l = append(l, flaw{15, "right_child=" + words, api.ErrForeign, 14, []int{ofSections, 0, ofTree}})
	}
	return l
}

// laterFlaws are wrong in the later sections, and as a whole.
func laterFlaws() []flaw {
	var l []flaw
	add := func(row int, text string, why api.Errno, told int, rank ...int) {
		l = append(l, flaw{row, text, why, told, append([]int{ofSections}, rank...)})
	}
	for _, word := range []string{"0", "2", "01", "x", "", "1 1"} {
		add(20, "Tree="+word, api.ErrForeign, 20, 1, ofKeys, 0)
	}
	add(21, "", api.ErrForeign, 20, 1, ofKeys, 1)
	add(21, "num_leaves=0", api.ErrForeign, 21, 1, ofKeys, 1)
	add(21, "num_leaves=2", api.ErrForeign, 22, 1, ofKeys, 2)
	add(22, "", api.ErrForeign, 20, 1, ofKeys, 2)
	add(22, "leaf_value=1e99", api.ErrBig, 22, 1, ofKeys, 2)
	add(22, "leaf_value=", api.ErrForeign, 22, 1, ofKeys, 2)
	add(24, "Tree=3", api.ErrForeign, 24, 2, ofKeys, 0)
	add(26, "split_feature=3", api.ErrForeign, 26, 2, ofKeys, 3)
	add(26, "", api.ErrForeign, 24, 2, ofKeys, 3)
	add(27, "", api.ErrForeign, 24, 2, ofKeys, 4)
	add(28, "", api.ErrForeign, 24, 2, ofKeys, 5)
	add(29, "", api.ErrForeign, 24, 2, ofKeys, 6)
	add(30, "", api.ErrForeign, 24, 2, ofKeys, 7)
	add(31, "leaf_value=5 6 7", api.ErrForeign, 31, 2, ofKeys, 2)
	add(32, "num_cat=x", api.ErrForeign, 32, 2, ofKeys, 8)
	add(32, "num_cat=1", api.ErrForeign, 24, 2, ofKeys, 9)
	add(28, "decision_type=4", api.ErrCannot, 28, 2, ofNodes, 0, 0)
	add(28, "decision_type=12", api.ErrForeign, 28, 2, ofNodes, 0, 0)
	add(28, "decision_type=1", api.ErrForeign, 27, 2, ofNodes, 0, 1)
	add(27, "threshold=nan", api.ErrForeign, 27, 2, ofNodes, 0, 1)
	add(29, "left_child=0", api.ErrForeign, 29, 2, ofTree)
	add(29, "left_child=-1", api.ErrForeign, 29, 2, ofTree)
	add(30, "right_child=-2", api.ErrForeign, 29, 2, ofTree)
	l = append(l, flaw{31, "leaf_value=5 4611686018427.387904", api.ErrModel, 0, []int{ofRules}})
	l = append(l, flaw{22, "leaf_value=9223372036854.775807", api.ErrModel, 0, []int{ofRules}})
	return l
}

func allFlaws() []flaw {
	return slices.Concat(rowFlaws(), headerFlaws(), keyFlaws(), nodeFlaws(), laterFlaws())
}

// Each flaw alone, and every two of different rows together: that of the lesser rank is told.
func TestFlaws(t *testing.T) {
	l := allFlaws()
	for _, a := range l {
		s := joined(with(wide(), a.row, a.text))
		refused(t, strconv.Itoa(a.row)+": "+a.text, s, a.why, a.told)
		judgedByWords(t, "a flaw", s)
	}
	l = slices.CompactFunc(l, func(a, b flaw) bool { // of those that are alike but for the text one is enough
		return a.row == b.row && a.told == b.told && a.why == b.why && slices.Equal(a.rank, b.rank)
	})
	for i, a := range l {
		for _, b := range l[:i] {
			if a.row == b.row || interfere(a, b) {
				continue
			}
			first := a
			if slices.Compare(b.rank, a.rank) < 0 {
				first = b
			}
			s := joined(with(with(wide(), a.row, a.text), b.row, b.text))
			if _, why, row := Read(s, "m"); why != first.why || row != first.told {
				t.Errorf("11.1: %d: %.40q and %d: %.40q: error %d at row %d, not %d at %d", a.row, a.text, b.row, b.text, why, row, first.why, first.told)
			}
		}
	}
}

// interfere tells whether one of two flaws takes away what makes the other one: a node that is read otherwise, a set that is not looked at, or a tree made right.
func interfere(a, b flaw) bool {
	if isSecond(a, b) || isSecond(b, a) {
		return true
	}
	if a.rank[0] != ofSections || b.rank[0] != ofSections || a.rank[1] != b.rank[1] {
		return a.rank[0] == ofHeader && b.rank[0] == ofHeader && a.row+b.row == 9 // num_tree_per_iteration is held against num_class
	}
	if slices.Compare(a.rank, b.rank) > 0 {
		a, b = b, a
	}
	switch {
	case a.rank[2] == ofTree, a.rank[2] == ofNodes && b.rank[2] == ofNodes:
		return true
	case b.row == 21 || b.row == 32 || b.row == 10: // how many leaves or sets there are decides what is looked at
		return true
	}
	return false
}

// isSecond tells whether a flaw is a key that stands twice, where the first one is gone by the other flaw.
func isSecond(a, b flaw) bool {
	key, _, _ := strings.Cut(a.text, "=")
	other, _, _ := strings.Cut(wide()[b.row-1], "=")
	return a.rank[0] == ofRows && key == other && !strings.HasPrefix(b.text, key)
}

// Flaws that no other text of the same row could be without.
func TestFlawsOfOneRow(t *testing.T) {
	for _, c := range []struct {
		row  int
		text string
		why  api.Errno
		told int
	}{
		{13, "decision_type=4 12 16", api.ErrForeign, 13}, {13, "decision_type=12 4 4", api.ErrForeign, 13}, {13, "decision_type=4 12 12", api.ErrCannot, 13}, {13, "decision_type=10 12 4", api.ErrForeign, 13},
		{12, "threshold=0.5 1 x\nthreshold=", api.ErrForeign, 13}, {20, "spare=", api.ErrForeign, 21}, {20, "spare=\n\n", api.ErrForeign, 23}, {8, "Tree=0\nTree=1", api.ErrForeign, 8}, {8, "Tree=0\nTree=", api.ErrForeign, 8},
		{6, "feature_names=a b", api.ErrForeign, 11}, {6, "feature_names=a", api.ErrForeign, 11}, {4, "num_class=1", api.ErrForeign, 5}, {10, "num_cat=1", api.ErrForeign, 17}, {10, "num_cat=3", api.ErrForeign, 17},
		{9, "num_leaves=3", api.ErrForeign, 16}, {9, "num_leaves=5", api.ErrForeign, 16}, {9, "num_leaves=1", api.ErrForeign, 16}, {9, "num_leaves=4096", api.ErrForeign, 16}, {10, "num_cat=9999999999", api.ErrForeign, 17},
	} {
		s := joined(with(wide(), c.row, c.text))
		refused(t, c.text, s, c.why, c.told)
		judgedByWords(t, c.text, s)
	}
	// The first node is told, whatever is wrong with it.
	l := with(with(wide(), 13, "decision_type=10 9 5"), 12, "threshold=x 1 0")
	refused(t, "an early threshold, a late type", joined(l), api.ErrForeign, 12)
	l = with(with(wide(), 13, "decision_type=10 5 1"), 12, "threshold=0.5 1 x")
	refused(t, "an early type, a late threshold", joined(l), api.ErrCannot, 13)
	l = with(with(wide(), 13, "decision_type=10 9 4"), 18, "cat_threshold=11 0 0")
	refused(t, "an early set, a late type", joined(l), api.ErrForeign, 18)
	l = with(with(wide(), 12, "threshold=0.5 1 x"), 18, "cat_threshold=11 0 0")
	refused(t, "an early set, a late threshold", joined(l), api.ErrForeign, 18)
	l = with(with(wide(), 12, "threshold=0.5 x 0"), 18, "cat_threshold=0 0 0")
	refused(t, "an early threshold, a late set", joined(l), api.ErrForeign, 12)
	l = with(with(wide(), 12, "threshold=0.5 x 0"), 13, "decision_type=10 5 1")
	refused(t, "type and threshold of one node", joined(l), api.ErrCannot, 13)
	// Children that are all named once, and yet are no tree.
	l = with(with(wide(), 14, "left_child=-1 2 1"), 15, "right_child=-2 -3 -4")
	refused(t, "two that are below one another", joined(l), api.ErrForeign, 14)
	l = with(with(wide(), 14, "left_child=2 1 -3"), 15, "right_child=-1 -2 -4")
	refused(t, "one that is below itself", joined(l), api.ErrForeign, 14)
	l = with(with(wide(), 14, "left_child=0 -1 -3"), 15, "right_child=1 -2 -4")
	refused(t, "the first below itself", joined(l), api.ErrForeign, 14)
	// Sets that no node asks for are not looked at.
	l = with(with(with(wide(), 12, "threshold=0.5 0 0"), 17, "cat_boundaries=0 1 36"), 18, "cat_threshold=11"+strings.Repeat(" 4294967295", 35))
	if _, why, row := Read(joined(l), "m"); why != api.OK || row != 0 {
		t.Errorf("11.1: a set that nobody asks for: %d at %d", why, row)
	}
}

// Whether keys stand in another order hangs on nothing but the rows that are told.
func TestKeysInAnyOrder(t *testing.T) {
	r := source()
	for range 300 {
		l := wide()
		for _, part := range [][]string{l[2:7], l[8:19], l[20:23], l[24:32]} {
			r.Shuffle(len(part), func(i, j int) { part[i], part[j] = part[j], part[i] })
		}
		taken(t, "keys in another order", joined(l), wideModel())
	}
}

// Names are those of scan.
func TestNames(t *testing.T) {
	for _, name := range []string{"Tree=0", "", "a b", "é", strings.Repeat("n", api.MaxName+1), "a\n"} {
		if e, why, row := Read(joined(example()), name); why != api.ErrModel || row != 0 || e.Features != nil {
			t.Errorf("11.1: the name %q: %d at %d", name, why, row)
		}
		// A text's own faults come first.
		if _, why, row := Read(joined(with(example(), 10, "left_child=1 -2")), name); why != api.ErrForeign || row != 10 {
			t.Errorf("11.1: the name %q: %d at %d", name, why, row)
		}
	}
	for _, name := range []string{"m", "-.9_", strings.Repeat("n", api.MaxName)} {
		e := exampleModel()
		e.Name = name
		e.Features = []string{name, "Tree"}
		taken(t, "names", joined(with(example(), 3, "feature_names="+name+" Tree")), e)
	}
}

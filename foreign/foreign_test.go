package foreign

import (
	"math"
	"math/rand/v2"
	"reflect"
	"slices"
	"strconv"
	"strings"
	"testing"

	"thicket/api"
	"thicket/rules"
	"thicket/trees"
)

const (
	left  = api.SideLeft
	right = api.SideRight
)

var (
	endless = math.Inf(1)
	minus0  = math.Copysign(0, -1)
)

func source() *rand.Rand { return rand.New(rand.NewPCG(11, 11)) }

func leafOf(v int64) api.Node { return api.Node{Kind: api.NodeLeaf, Value: v} }

func numberOf(feature int, threshold float64, missing api.Side, l, r int) api.Node {
	return api.Node{Kind: api.NodeNumber, Feature: feature, Threshold: threshold, Missing: missing, Left: l, Right: r}
}

func catsOf(feature int, missing api.Side, l, r int, cats ...int) api.Node {
	return api.Node{Kind: api.NodeCats, Feature: feature, Cats: cats, Missing: missing, Left: l, Right: r}
}

func treeOf(output int, l ...api.Node) api.Tree { return api.Tree{Output: output, Nodes: l} }

// lined is a text's rows, given with " / " between.
func lined(s string) []string { return strings.Split(s, " / ") }

// joined has an LF behind each row.
func joined(l []string) string { return strings.Join(l, "\n") + "\n" }

// with has another row, of that number from 1 on.
func with(l []string, number int, row string) []string {
	l = slices.Clone(l)
	l[number-1] = row
	return l
}

// example is the chapter's S.
func example() []string {
	return lined("tree / num_class=1 / feature_names=a b / Tree=0 / num_leaves=3 / num_cat=1 / split_feature=1 0 / threshold=0.5 0 / decision_type=10 9 / left_child=1 -1 / right_child=-3 -2 / leaf_value=0.25 -1 2e-1 / cat_boundaries=0 1 / cat_threshold=10 / end of trees")
}

// exampleModel is what S says.
func exampleModel() api.Ensemble {
	return api.Ensemble{Name: "m", Features: []string{"a", "b"}, Outputs: 1, Base: []int64{0}, Trees: []api.Tree{
		treeOf(0, numberOf(1, 0.5, left, 1, 4), catsOf(0, right, 2, 3, 1, 3), leafOf(250000), leafOf(-1000000), leafOf(200000)),
	}}
}

// refused asks that Read tells this error at this row, and nothing else.
func refused(t *testing.T, what, s string, why api.Errno, row int) {
	t.Helper()
	e, got, at := Read(s, "m")
	if got != why || at != row {
		t.Errorf("11.1: %s: error %d at row %d, not %d at %d", what, got, at, why, row)
	}
	if !reflect.DeepEqual(e, api.Ensemble{}) {
		t.Errorf("P2: %s: %v beside an error", what, e)
	}
}

// taken asks that Read says this ensemble, named m, and that it is a right one, numbered as Canon has it.
func taken(t *testing.T, what, s string, want api.Ensemble) {
	t.Helper()
	e, why, row := Read(s, want.Name)
	if why != api.OK || row != 0 || !trees.Same(e, want) {
		t.Errorf("11.1: %s: %v, %d, %d; not %v", what, e, why, row, want)
		return
	}
	if !rules.Valid(e) {
		t.Errorf("11.6: %s: %s", what, rules.Say(rules.Check(e)))
	}
	if m, why := trees.Model(e); why != api.OK || !trees.Same(e, m) {
		t.Errorf("11.1: %s: not numbered as trees.Canon has it: %v", what, e)
	}
}

// node is the first tree's node of that number.
func node(t *testing.T, what, s string, i int) api.Node {
	t.Helper()
	e, why, row := Read(s, "m")
	if why != api.OK || row != 0 {
		t.Errorf("11.1: %s: error %d at row %d", what, why, row)
		return api.Node{}
	}
	return e.Trees[0].Nodes[i]
}

func TestExamples(t *testing.T) {
	s := joined(example())
	taken(t, "S", s, exampleModel())
	refused(t, "the empty text", "", api.ErrForeign, 1)
	refused(t, "tree", "tree", api.ErrForeign, 2)
	for _, c := range []struct {
		row  int
		text string
		why  api.Errno
		at   int
	}{
		{2, "num_class=0", api.ErrForeign, 2}, {14, "cat_threshold=10\nnum_leaves=3", api.ErrForeign, 15}, {9, "decision_type=6 9", api.ErrCannot, 9}, {10, "left_child=1 -2", api.ErrForeign, 10},
		{14, "cat_threshold=0", api.ErrForeign, 14}, {12, "leaf_value=1e99 0 0", api.ErrBig, 12},
	} {
		refused(t, c.text, joined(with(example(), c.row, c.text)), c.why, c.at)
	}
	m := exampleModel()
	taken(t, "missing type 0", joined(with(example(), 9, "decision_type=0 1")), m)
	w, why := Write(m)
	want := joined(lined("tree / version=v4 / num_class=1 / num_tree_per_iteration=1 / label_index=0 / max_feature_idx=1 / feature_names=a b /  / Tree=0 / num_leaves=3 / num_cat=1 / split_feature=1 0 / threshold=0.5 0 / decision_type=10 9 / left_child=1 -1 / right_child=-3 -2 / leaf_value=0.25 -1 0.2 / cat_boundaries=0 1 / cat_threshold=10 /  / end of trees"))
	if w != want || why != api.OK {
		t.Errorf("11.2: %q, %d", w, why)
	}
}

// The document's T, with base 0.
func TestExampleOfTheWhole(t *testing.T) {
	e := api.Ensemble{Name: "m", Features: []string{"a", "b"}, Outputs: 1, Base: []int64{0}, Trees: []api.Tree{treeOf(0, numberOf(0, 0.5, left, 1, 2), leafOf(1000000), leafOf(-2250000))}}
	w, why := Write(e)
	want := joined(lined("tree / version=v4 / num_class=1 / num_tree_per_iteration=1 / label_index=0 / max_feature_idx=1 / feature_names=a b /  / Tree=0 / num_leaves=2 / num_cat=0 / split_feature=0 / threshold=0.5 / decision_type=10 / left_child=-1 / right_child=-2 / leaf_value=1 -2.25 /  / end of trees"))
	if w != want || why != api.OK {
		t.Errorf("P10: %q, %d", w, why)
	}
	taken(t, "P10: T", w, e)
	e.Base[0] = 500000
	if w, why := Write(e); w != "" || why != api.ErrCannot {
		t.Errorf("11.2: T with its base: %q, %d", w, why)
	}
}

// wide has three sections, one of a leaf alone, and in each part a row that says nothing.
func wide() []string {
	return lined(" \t / tree / version=v4 / num_class=2 / num_tree_per_iteration=2 / feature_names=a b c / spare=1 / " +
		"Tree=0 / num_leaves=4 / num_cat=2 / split_feature=1 0 2 / threshold=0.5 1 0 / decision_type=10 9 1 / left_child=2 -1 -3 / right_child=1 -2 -4 / leaf_value=1 -2 0.5 3e-6 / cat_boundaries=0 1 3 / cat_threshold=11 0 1 / spare=2 / " +
		"Tree=1 / num_leaves=1 / leaf_value=-7 / spare= / " +
		"Tree=2 / num_leaves=2 / split_feature=0 / threshold=-0 / decision_type=0 / left_child=-2 / right_child=-1 / leaf_value=5 6 / spare=3 / end of trees")
}

func wideModel() api.Ensemble {
	return api.Ensemble{Name: "w", Features: []string{"a", "b", "c"}, Outputs: 2, Base: []int64{0, 0}, Trees: []api.Tree{
		treeOf(0, numberOf(1, 0.5, left, 1, 4), catsOf(2, left, 2, 3, 0, 1, 3), leafOf(500000), leafOf(3), catsOf(0, right, 5, 6, 32), leafOf(1000000), leafOf(-2000000)),
		treeOf(1, leafOf(-7000000)),
		treeOf(0, numberOf(0, minus0, left, 1, 2), leafOf(6000000), leafOf(5000000)),
	}}
}

func TestWide(t *testing.T) {
	taken(t, "all kinds of rows", joined(wide()), wideModel())
	// Rows that are empty, keys that say nothing, and every end of a row.
	for _, end := range []string{"\n", "\r\n", "\r"} {
		for _, between := range []string{"", " ", "\t \t", "x=", "=", "=x=y", "tree=", "end of trees=", "TREE=1", " Tree=7", "Tree =7", "\ttree=", "\x00=\xff", "num_class =9", " num_leaves=9", "leaf_weight=1 2"} {
			var l []string
			for i, row := range wide() {
				if i > 1 {
					l = append(l, between, between)
				}
				l = append(l, row)
			}
			taken(t, "rows between", strings.Join(l, end), wideModel())
			taken(t, "an end behind the last row", strings.Join(l, end)+end, wideModel())
		}
	}
	for _, ahead := range []string{"\n", "\r\r\n\n", " ", "\t\n", "\n \t \n"} {
		taken(t, "rows ahead", strings.Replace(ahead+"\n"+joined(wide()), " \t\n", "", 1), wideModel())
	}
	for _, behind := range []string{"x", "end of trees", "tree", "Tree=0\nnum_leaves=1", "\xff\x00", "num_class=1", "parameters:\n[boosting: gbdt]\n"} {
		taken(t, "what stands behind the end", joined(wide())+behind, wideModel())
	}
}

// A key that is told of the other part says nothing, and may stand again.
func TestKeysOfTheOtherPart(t *testing.T) {
	sections := []string{"num_leaves", "leaf_value", "split_feature", "threshold", "decision_type", "left_child", "right_child", "num_cat", "cat_boundaries", "cat_threshold"}
	for _, key := range append(sections, "version", "label_index", "max_feature_idx", "spare") {
		taken(t, key+" in the header", joined(with(wide(), 7, key+"=?\n"+key+"=??")), wideModel())
	}
	for _, key := range []string{"num_class", "num_tree_per_iteration", "feature_names", "version", "tree", "spare"} {
		for _, row := range []int{19, 23, 32} {
			taken(t, key+" in a section", joined(with(wide(), row, key+"=?\n"+key+"=??")), wideModel())
		}
	}
}

func TestTextsWithoutTrees(t *testing.T) {
	want := api.Ensemble{Name: "m", Features: []string{"a"}, Outputs: 1, Base: []int64{0}}
	for _, s := range []string{"tree\nnum_class=1\nfeature_names=a\nend of trees", "tree\rfeature_names= a  \r\rnum_class=  1 \rend of trees\rTree=0"} {
		taken(t, "no section", s, want)
	}
	refused(t, "no header", "tree\nend of trees", api.ErrForeign, 2)
	refused(t, "no feature_names", "tree\nnum_class=1\n\nend of trees", api.ErrForeign, 4)
	refused(t, "no num_class, ahead of a section", "tree\nfeature_names=a\n\nTree=0\nend of trees", api.ErrForeign, 4)
	for many := range 65 {
		text := []string{"tree", "num_class=" + strconv.Itoa(many), "feature_names=a"}
		for k := range 70 {
			text = append(text, "Tree="+strconv.Itoa(k), "num_leaves=1", "leaf_value="+strconv.Itoa(k))
		}
		s := joined(append(text, "end of trees"))
		if many == 0 {
			refused(t, "no outputs", s, api.ErrForeign, 2)
			continue
		}
		e := api.Ensemble{Name: "m", Features: []string{"a"}, Outputs: many, Base: make([]int64, many)}
		for k := range 70 {
			e.Trees = append(e.Trees, treeOf(k%many, leafOf(int64(k)*api.Unit)))
		}
		taken(t, "outputs in turn", s, e)
	}
}

// Every decision type, of numbers above and below 0 and of categories with 0 and without.
func TestDecisionTypes(t *testing.T) {
	for d := range 16 {
		for threshold, toLeft := range map[string]bool{"0.5": true, "0": true, "-0": true, "5e-324": true, "inf": true, "-5e-324": false, "-1": false, "-inf": false} {
			l := with(with(example(), 9, "decision_type="+strconv.Itoa(d)+" 9"), 8, "threshold="+threshold+" 0")
			switch {
			case d/4 == 1:
				refused(t, "a nought that goes with NaN", joined(l), api.ErrCannot, 9)
			case d/4 == 3:
				refused(t, "no missing type", joined(l), api.ErrForeign, 9)
			case d%2 == 1 && threshold != "0":
				refused(t, "no number of a set", joined(l), api.ErrForeign, 8)
			case d%2 == 1:
				n := node(t, "categories", joined(l), 0)
				if n.Kind != api.NodeCats || !slices.Equal(n.Cats, []int{1, 3}) || n.Missing != right {
					t.Errorf("11.1: decision type %d: %v", d, n)
				}
			default:
				want := right
				if d/4 == 2 && d&2 != 0 || d/4 == 0 && toLeft {
					want = left
				}
				if n := node(t, "a number", joined(l), 0); n.Kind != api.NodeNumber || n.Missing != want {
					t.Errorf("11.1: decision type %d, threshold %s: %v", d, threshold, n)
				}
			}
		}
		if d%2 == 0 || d/4%2 == 1 {
			continue
		}
		for word, cats := range map[string][]int{"1": {0}, "10": {1, 3}, "11": {0, 1, 3}, "4294967295": upTo(32), "2147483648": {31}} {
			l := with(with(example(), 9, "decision_type=8 "+strconv.Itoa(d)), 14, "cat_threshold="+word)
			want := right
			if d/4 == 0 && cats[0] == 0 {
				want = left
			}
			if n := node(t, "categories", joined(l), 1); n.Kind != api.NodeCats || !slices.Equal(n.Cats, cats) || n.Missing != want || n.Threshold != 0 {
				t.Errorf("11.1: decision type %d, cat_threshold %s: %v", d, word, n)
			}
		}
	}
}

func upTo(n int) []int {
	l := make([]int, n)
	for i := range l {
		l[i] = i
	}
	return l
}

// Thresholds that are numbers are read bit for bit.
func TestThresholds(t *testing.T) {
	for word, want := range map[string]float64{
		"0": 0, "-0": minus0, "-0.0e7": minus0, "inf": endless, "-inf": -endless, "1e400": endless, "-1e400": -endless, "5e-324": math.SmallestNonzeroFloat64, "-5e-324": -math.SmallestNonzeroFloat64, "1e-400": 0, "-1e-400": minus0,
		"1.7976931348623157e+308": math.MaxFloat64, "0.1": 0.1, "0x1.8p1": 3, "00012.50": 12.5, "1E3": 1000, "9007199254740993": 9007199254740992, "0." + strings.Repeat("3", api.MaxNumber-2): 1.0 / 3,
	} {
		n := node(t, word, joined(with(example(), 8, "threshold="+word+" 0")), 0)
		if math.Float64bits(n.Threshold) != math.Float64bits(want) {
			t.Errorf("11.1: the threshold %.40s is read as %v", word, n.Threshold)
		}
	}
	for _, word := range []string{"nan", "-nan", "NaN", "Inf", "infinity", "+1", ".5", "1.", "1e", "0x1", "x", "-", "--1", "1,5", "0.5\t", "0." + strings.Repeat("3", api.MaxNumber-1), "\xff"} {
		refused(t, word, joined(with(example(), 8, "threshold="+word+" 0")), api.ErrForeign, 8)
	}
}

// Leaves are rounded to millionths; what fixed refuses is told as fixed tells it.
func TestLeafValues(t *testing.T) {
	for word, want := range map[string]int64{"0": 0, "-0": 0, "0.0000005": 0, "0.0000015": 2, "-0.0000025": -2, "15e-1": 1500000, "1E2": 100000000, "007.25": 7250000, "0e99999999999": 0, "-1e-99999999999": 0, "1e-99": 0, "4611686018426.387903": 4611686018426387903, strings.Repeat("0", api.MaxNumber-1) + "1": 1000000} {
		if n := node(t, word, joined(with(example(), 12, "leaf_value="+word+" 0 1")), 2); n.Kind != api.NodeLeaf || n.Value != want {
			t.Errorf("11.1: the leaf %.40s is read as %d", word, n.Value)
		}
	}
	for word, why := range map[string]api.Errno{
		"1e99": api.ErrBig, "9223372036854.775808": api.ErrBig, "-9223372036854.775809": api.ErrBig, "x": api.ErrFixed, "nan": api.ErrFixed, "inf": api.ErrFixed, "-inf": api.ErrFixed, "0x1p1": api.ErrFixed, "1.": api.ErrFixed, ".5": api.ErrFixed, "+1": api.ErrFixed, "1e": api.ErrFixed, "-": api.ErrFixed, "1\t": api.ErrFixed, "\t": api.ErrFixed,
		strings.Repeat("0", api.MaxNumber+1): api.ErrLong, strings.Repeat("x", api.MaxNumber+1): api.ErrLong,
	} {
		for _, words := range []string{word + " 0 0", "0 " + word + " 0", "0 0 " + word, "0  " + word + "  " + word} {
			refused(t, "leaves "+words, joined(with(example(), 12, "leaf_value="+words)), why, 12)
		}
		refused(t, "too few leaves, among them "+word, joined(with(example(), 12, "leaf_value="+word+" 0")), api.ErrForeign, 12)
		refused(t, "too many leaves, among them "+word, joined(with(example(), 12, "leaf_value="+word+" 0 0 0")), api.ErrForeign, 12)
		refused(t, "a leaf alone that is "+word, joined(with(wide(), 22, "leaf_value="+word)), why, 22)
	}
	refused(t, "the first of two is told", joined(with(example(), 12, "leaf_value=0 x 1e99")), api.ErrFixed, 12)
	refused(t, "the first of two is told", joined(with(example(), 12, "leaf_value=1e99 x 0")), api.ErrBig, 12)
	// What fixed takes may be more than the rules do.
	refused(t, "a room that is full", joined(with(example(), 12, "leaf_value=0 4611686018427.387904 0")), api.ErrModel, 0)
	taken(t, "a room that is not", joined(with(wide(), 22, "leaf_value=-4611686018427.387903")), func() api.Ensemble {
		e := wideModel()
		e.Trees[1].Nodes[0].Value = 1 - api.MaxSum
		return e
	}())
}

// Of a leaf alone nothing else is looked at; but no key stands twice.
func TestOneLeaf(t *testing.T) {
	for _, key := range []string{"split_feature", "threshold", "decision_type", "left_child", "right_child", "num_cat", "cat_boundaries", "cat_threshold"} {
		for _, value := range []string{"", "0", "1", "x", "0 1 2", "99999999999"} {
			taken(t, key+" of one leaf", joined(with(wide(), 23, key+"="+value)), wideModel())
			refused(t, key+" twice", joined(with(wide(), 23, key+"="+value+"\n"+key+"=0")), api.ErrForeign, 24)
		}
	}
	taken(t, "num_leaves behind its values", joined(with(with(wide(), 21, "leaf_value=-7"), 22, "num_leaves=1")), wideModel())
}

// Blanks may stand ahead of, between and behind words; a tab is none.
func TestBlanks(t *testing.T) {
	for i, row := range wide() {
		key, value, ok := strings.Cut(row, "=")
		if !ok || key == "spare" || key == "version" {
			continue
		}
		taken(t, "blanks", joined(with(wide(), i+1, key+"=  "+strings.ReplaceAll(value, " ", "   ")+" ")), wideModel())
		for _, s := range []string{key + "=\t" + value, key + "=" + value + "\t", key + "=" + strings.ReplaceAll(value, " ", "\t")} {
			why := api.ErrForeign
			if key == "leaf_value" {
				why = api.ErrFixed
				if strings.Count(s, " ") < strings.Count(value, " ") {
					why = api.ErrForeign
				}
			}
			if s != row {
				refused(t, "a tab: "+s, joined(with(wide(), i+1, s)), why, i+1)
			}
		}
		for _, s := range []string{key + " =" + value, key + "\t=" + value, " " + key + "=" + value} { // another key
			if _, why, _ := Read(joined(with(wide(), i+1, s)), "m"); why == api.OK && key != "num_tree_per_iteration" {
				t.Error("11.1: a blank belongs to the key:", s)
			}
		}
	}
}

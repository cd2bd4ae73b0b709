package foreign

import (
	"math"
	"math/rand/v2"
	"slices"
	"strconv"
	"strings"
	"testing"

	"thicket/api"
	"thicket/fixed"
	"thicket/floats"
	"thicket/rules"
	"thicket/trees"
)

// written asks for the text of an ensemble, and that it is read back as the same.
func written(t *testing.T, e api.Ensemble, want string) {
	t.Helper()
	s, why := Write(e)
	if s != want || why != api.OK {
		t.Errorf("11.2: %v: %q, %d, not %q", e, s, why, want)
	}
	m, _ := trees.Model(e)
	taken(t, "11.4", s, m)
}

func cannot(t *testing.T, what string, e api.Ensemble, want api.Errno) {
	t.Helper()
	if s, why := Write(e); s != "" || why != want {
		t.Errorf("11.2: %s: %q, %d, not %d", what, s, why, want)
	}
}

func TestWriteOfWide(t *testing.T) {
	want := joined(lined("tree / version=v4 / num_class=2 / num_tree_per_iteration=2 / label_index=0 / max_feature_idx=2 / feature_names=a b c /  / " +
		"Tree=0 / num_leaves=4 / num_cat=2 / split_feature=1 2 0 / threshold=0.5 0 1 / decision_type=10 1 9 / left_child=1 -1 -3 / right_child=2 -2 -4 / leaf_value=0.5 0.000003 1 -2 / cat_boundaries=0 1 3 / cat_threshold=11 0 1 /  / " +
		"Tree=1 / num_leaves=1 / num_cat=0 / leaf_value=-7 /  / " +
		"Tree=2 / num_leaves=2 / num_cat=0 / split_feature=0 / threshold=-0 / decision_type=10 / left_child=-1 / right_child=-2 / leaf_value=6 5 /  / end of trees"))
	written(t, wideModel(), want)
	none := api.Ensemble{Name: "n", Features: []string{"a"}, Outputs: 3, Base: []int64{0, 0, 0}}
	written(t, none, joined(lined("tree / version=v4 / num_class=3 / num_tree_per_iteration=3 / label_index=0 / max_feature_idx=0 / feature_names=a /  / end of trees")))
	// Nodes are written from the root on, whatever their numbers.
	e := exampleModel()
	e.Trees[0].Nodes = []api.Node{numberOf(1, 0.5, left, 4, 2), leafOf(-1000000), leafOf(200000), leafOf(250000), catsOf(0, right, 3, 1, 1, 3)}
	want, _ = Write(exampleModel())
	written(t, e, want)
}

// All that Write can't say, each alone, and what only seems to be such.
func TestWhatCannotBeSaid(t *testing.T) {
	for i := range 2 {
		for _, v := range []int64{1, -1, math.MaxInt64 >> 2} {
			e := wideModel()
			e.Base[i] = v
			cannot(t, "a base", e, api.ErrCannot)
		}
	}
	for k, output := range []int{1, 0, 1} {
		e := wideModel()
		e.Trees[k].Output = output
		cannot(t, "an output", e, api.ErrCannot)
	}
	for _, at := range []int{1, 4} {
		e := wideModel()
		e.Trees[0].Nodes[at].Missing = left
		e.Trees[0].Nodes[at].Cats = []int{1, 5}
		cannot(t, "NaN to the left without 0", e, api.ErrCannot)
		e.Trees[0].Nodes[at].Cats = []int{0}
		if _, why := Write(e); why != api.OK {
			t.Error("11.2: NaN to the left with 0:", why)
		}
		e.Trees[0].Nodes[at].Missing = right
		if _, why := Write(e); why != api.OK {
			t.Error("11.2: NaN to the right with 0:", why)
		}
	}
	e := wideModel()
	e.Trees = append(e.Trees, treeOf(1, catsOf(0, left, 1, 2, 1023), leafOf(1), leafOf(2)))
	cannot(t, "NaN to the left in a later tree", e, api.ErrCannot)
	e.Name = ""
	cannot(t, "a broken rule comes first", e, api.ErrModel)
	e = wideModel()
	e.Base[0] = math.MinInt64
	cannot(t, "a base that is too great", e, api.ErrModel)
}

func TestWriteOfWrongEnsembles(t *testing.T) {
	for rule, spoil := range map[api.Rule]func(*api.Ensemble){
		api.RuleName: func(e *api.Ensemble) { e.Name = "a b" }, api.RuleFeatures: func(e *api.Ensemble) { e.Features = nil }, api.RuleFeature: func(e *api.Ensemble) { e.Features[1] = "b\n" }, api.RuleTwice: func(e *api.Ensemble) { e.Features[1] = "a" },
		api.RuleOutputs: func(e *api.Ensemble) { e.Outputs = 0 }, api.RuleBase: func(e *api.Ensemble) { e.Base = nil }, api.RuleTrees: func(e *api.Ensemble) { e.Trees = make([]api.Tree, api.MaxTrees+1) },
		api.RuleOutput: func(e *api.Ensemble) { e.Trees[0].Output = 2 }, api.RuleNodes: func(e *api.Ensemble) { e.Trees[0].Nodes = nil }, api.RuleKind: func(e *api.Ensemble) { e.Trees[0].Nodes[2].Kind = 0 },
		api.RuleZero: func(e *api.Ensemble) { e.Trees[0].Nodes[2].Threshold = minus0 }, api.RuleSplit: func(e *api.Ensemble) { e.Trees[0].Nodes[0].Feature = 3 }, api.RuleThreshold: func(e *api.Ensemble) { e.Trees[0].Nodes[0].Threshold = math.NaN() },
		api.RuleCats: func(e *api.Ensemble) { e.Trees[0].Nodes[1].Cats = []int{3, 3} }, api.RuleMissing: func(e *api.Ensemble) { e.Trees[0].Nodes[0].Missing = 3 }, api.RuleKids: func(e *api.Ensemble) { e.Trees[0].Nodes[0].Right = 7 },
		api.RuleTree: func(e *api.Ensemble) { e.Trees[0].Nodes[0].Right = 1 }, api.RuleSum: func(e *api.Ensemble) { e.Trees[1].Nodes[0].Value = math.MinInt64 },
	} {
		e := wideModel()
		spoil(&e)
		if b := rules.Check(e); b.Rule != rule {
			t.Fatal("no test of rule", rule, "but", b)
		}
		cannot(t, rules.Say(rules.Check(e)), e, api.ErrModel)
	}
	cannot(t, "nothing", api.Ensemble{}, api.ErrModel)
}

// Thresholds go there and back bit for bit.
func TestWriteOfThresholds(t *testing.T) {
	r := source()
	l := []float64{0, minus0, endless, -endless, math.MaxFloat64, -math.MaxFloat64, math.SmallestNonzeroFloat64, -math.SmallestNonzeroFloat64, 0x1p-1022, 0x1p-1022 - 0x1p-1074, 0.1, 1e21, 1e-7, 123456789012345680000}
	for range 500 {
		if v := math.Float64frombits(r.Uint64()); v == v {
			l = append(l, v)
		}
	}
	for _, v := range l {
		for _, side := range []api.Side{left, right} {
			e := exampleModel()
			e.Trees = []api.Tree{treeOf(0, numberOf(1, v, side, 1, 2), leafOf(-1), leafOf(1))}
			d := map[api.Side]string{left: "10", right: "8"}[side]
			written(t, e, joined(lined("tree / version=v4 / num_class=1 / num_tree_per_iteration=1 / label_index=0 / max_feature_idx=1 / feature_names=a b /  / Tree=0 / num_leaves=2 / num_cat=0 / split_feature=1 / threshold="+floats.Shortest(v)+" / decision_type="+d+" / left_child=-1 / right_child=-2 / leaf_value=-0.000001 0.000001 /  / end of trees")))
		}
	}
}

// Categories at the words' borders and at the limit.
func TestWriteOfCategories(t *testing.T) {
	for _, cats := range [][]int{{0}, {31}, {32}, {0, 31, 32, 63}, {63}, {64}, {1023}, {0, 1023}, {992}, {991}, upTo(1024), upTo(32), upTo(33)} {
		for _, side := range []api.Side{left, right} {
			if side == left && cats[0] != 0 {
				continue
			}
			words := make([]uint32, cats[len(cats)-1]/32+1)
			for _, c := range cats {
				words[c/32] |= 1 << (c % 32)
			}
			said := ""
			for _, w := range words {
				said += " " + strconv.FormatUint(uint64(w), 10)
			}
			e := exampleModel()
			e.Trees = []api.Tree{treeOf(0, catsOf(1, side, 1, 2, cats...), leafOf(0), leafOf(api.Unit))}
			d := map[api.Side]string{left: "1", right: "9"}[side]
			written(t, e, joined(lined("tree / version=v4 / num_class=1 / num_tree_per_iteration=1 / label_index=0 / max_feature_idx=1 / feature_names=a b /  / Tree=0 / num_leaves=2 / num_cat=1 / split_feature=1 / threshold=0 / decision_type="+d+" / left_child=-1 / right_child=-2 / leaf_value=0 1 / cat_boundaries=0 "+strconv.Itoa(len(words))+" / cat_threshold="+said[1:]+" /  / end of trees")))
		}
	}
}

// someTree has so many leaves, its nodes but 0 numbered at random.
func someTree(r *rand.Rand, leaves int, features int) api.Tree {
	anew := append([]int{0}, r.Perm(2*leaves-2)...)
	for i := 1; i < len(anew); i++ {
		anew[i]++
	}
	l := make([]api.Node, 2*leaves-1)
	many := 0
	var grow func(leaves int) int
	grow = func(leaves int) int {
		at := anew[many]
		many++
		if leaves == 1 {
			l[at] = leafOf((r.Int64() - 1<<62) >> (5 + r.IntN(55)))
			return at
		}
		n := someSplit(r, features)
		toLeft := 1 + r.IntN(leaves-1)
		n.Left = grow(toLeft)
		n.Right = grow(leaves - toLeft)
		l[at] = n
		return at
	}
	grow(leaves)
	return treeOf(0, l...)
}

// someSplit is an inner node that can be said; categories are asked of the features with odd numbers alone, so that vectors can have whole numbers there.
func someSplit(r *rand.Rand, features int) api.Node {
	side := []api.Side{left, right}[r.IntN(2)]
	feature := r.IntN(features)
	if feature%2 == 1 && r.IntN(4) > 0 {
		cats := r.Perm([]int{4, 40, api.MaxCats}[r.IntN(3)])[:1+r.IntN(4)]
		slices.Sort(cats)
		if side == left {
			cats[0] = 0
		}
		return catsOf(feature, side, 0, 0, cats...)
	}
	v := []float64{0, minus0, 0.5, -3, 1, 3, endless, -endless, math.Float64frombits(1), r.NormFloat64()}[r.IntN(10)]
	if any := math.Float64frombits(r.Uint64()); any == any && r.IntN(4) == 0 {
		v = any
	}
	return numberOf(feature, v, side, 0, 0)
}

// someForest is a right ensemble that can be said.
func someForest(r *rand.Rand) api.Ensemble {
	e := api.Ensemble{Name: "m", Outputs: 1 + r.IntN(3)}
	for i := range 1 + r.IntN(4) {
		e.Features = append(e.Features, []string{"f", "1", "-", "Tree", "end.x"}[r.IntN(5)]+strconv.Itoa(i))
	}
	e.Base = make([]int64, e.Outputs)
	for k := range r.IntN(5) {
		g := someTree(r, 1+r.IntN(7), len(e.Features))
		g.Output = k % e.Outputs
		e.Trees = append(e.Trees, g)
	}
	return e
}

// writeByWords puts the rows together, by walks from each root.
func writeByWords(e api.Ensemble) []string {
	l := []string{"tree", "version=v4", "num_class=" + strconv.Itoa(e.Outputs), "num_tree_per_iteration=" + strconv.Itoa(e.Outputs), "label_index=0", "max_feature_idx=" + strconv.Itoa(len(e.Features)-1), "feature_names=" + strings.Join(e.Features, " "), ""}
	for k, g := range e.Trees {
		inner, leaves, cats, words := 0, 0, 0, 0
		rows := make(map[string]string)
		add := func(key, word string) { rows[key] += " " + word }
		// Places are given ahead of those below, so that a node can say them.
		place := make([]int, len(g.Nodes))
		var number func(i int)
		number = func(i int) {
			if n := g.Nodes[i]; n.Kind != api.NodeLeaf {
				place[i] = inner
				inner++
				number(n.Left)
				number(n.Right)
				return
			}
			leaves++
			place[i] = -leaves
		}
		number(0)
		add("cat_boundaries", "0")
		var walk func(i int)
		walk = func(i int) {
			n := g.Nodes[i]
			if n.Kind == api.NodeLeaf {
				add("leaf_value", fixed.Print(n.Value))
				return
			}
			add("split_feature", strconv.Itoa(n.Feature))
			add("left_child", strconv.Itoa(place[n.Left]))
			add("right_child", strconv.Itoa(place[n.Right]))
			if n.Kind == api.NodeNumber {
				add("threshold", floats.Shortest(n.Threshold))
				add("decision_type", map[api.Side]string{left: "10", right: "8"}[n.Missing])
			} else {
				add("threshold", strconv.Itoa(cats))
				add("decision_type", map[api.Side]string{left: "1", right: "9"}[n.Missing])
				for from := 0; from <= n.Cats[len(n.Cats)-1]; from += 32 {
					word := 0
					for _, c := range n.Cats {
						if c >= from && c < from+32 {
							word += 1 << (c - from)
						}
					}
					add("cat_threshold", strconv.Itoa(word))
					words++
				}
				cats++
				add("cat_boundaries", strconv.Itoa(words))
			}
			walk(n.Left)
			walk(n.Right)
		}
		walk(0)
		l = append(l, "Tree="+strconv.Itoa(k), "num_leaves="+strconv.Itoa(leaves), "num_cat="+strconv.Itoa(cats))
		for _, key := range []string{"split_feature", "threshold", "decision_type", "left_child", "right_child", "leaf_value", "cat_boundaries", "cat_threshold"} {
			if key == "leaf_value" || inner > 0 && (cats > 0 || !strings.HasPrefix(key, "cat_")) {
				l = append(l, key+"="+rows[key][1:])
			}
		}
		l = append(l, "")
	}
	return append(l, "end of trees")
}

func TestThereAndBack(t *testing.T) {
	r := source()
	for range 3000 {
		e := someForest(r)
		written(t, e, joined(writeByWords(e)))
	}
}

// What Read takes, and Write writes, is read as the same.
func TestBackAndThere(t *testing.T) {
	r := source()
	for range 1500 {
		l := loosened(r, writeByWords(someForest(r)))
		e, why, row := Read(joined(l), "m")
		if why != api.OK || row != 0 {
			t.Fatalf("11.1: %q: %d at %d", joined(l), why, row)
		}
		s, why := Write(e)
		if why != api.OK {
			t.Fatalf("11.4: %q: %d", joined(l), why)
		}
		taken(t, "11.4: what was read", s, e)
	}
}

// loosened has decision types, leaves and words that Write would not write.
func loosened(r *rand.Rand, l []string) []string {
	l = slices.Clone(l)
	for i, row := range l {
		key, value, _ := strings.Cut(row, "=")
		words := strings.Fields(value)
		for k := range words {
			switch {
			case key == "decision_type":
				d, _ := strconv.Atoi(words[k])
				words[k] = strconv.Itoa(d&1 + []int{0, 2, 8, 10}[r.IntN(4)])
			case key == "leaf_value" && r.IntN(3) == 0:
				words[k] += map[bool]string{true: "49999e0", false: ".00e00"}[strings.Contains(words[k], ".")]
			}
		}
		if len(words) > 0 {
			l[i] = key + "=" + strings.Join(words, "  ")
		}
	}
	return l
}

// boosted goes through a right text's lists as the booster does: for each output the sum of the leaves that a vector comes to.
func boosted(s string, x []float64) []int64 {
	sections := strings.Split(s, "\nTree=")
	keysOf := func(section string) map[string][]string {
		m := make(map[string][]string)
		for _, row := range strings.Split(section, "\n") {
			key, value, _ := strings.Cut(row, "=")
			m[key] = strings.Fields(value)
		}
		return m
	}
	numbers := func(words []string) []int {
		var l []int
		for _, word := range words {
			n, _ := strconv.Atoi(word)
			l = append(l, n)
		}
		return l
	}
	sums := make([]int64, numbers(keysOf(sections[0])["num_class"])[0])
	for k, section := range sections[1:] {
		keys := keysOf(section)
		leaf := 0
		if len(keys["leaf_value"]) > 1 {
			lefts, rights, types := numbers(keys["left_child"]), numbers(keys["right_child"]), numbers(keys["decision_type"])
			bounds, words := numbers(keys["cat_boundaries"]), numbers(keys["cat_threshold"])
			at := 0
			for at >= 0 {
				v := x[numbers(keys["split_feature"])[at]]
				threshold, _ := strconv.ParseFloat(keys["threshold"][at], 64)
				d := types[at]
				toLeft := false
				switch lost := math.IsNaN(v); {
				case lost && d>>2 == 2:
					toLeft = d&1 == 0 && d&2 != 0
				case d&1 == 0:
					if lost {
						v = 0
					}
					toLeft = v <= threshold
				default:
					if lost {
						v = 0
					}
					// Cut off, and as no set has numbers so great, an infinity is none.
					if v = math.Trunc(v); v >= 0 && v < 1<<30 {
						set := words[bounds[int(threshold)]:bounds[int(threshold)+1]]
						c := int(v)
						toLeft = c/32 < len(set) && set[c/32]>>(c%32)&1 == 1
					}
				}
				if toLeft {
					at = lefts[at]
				} else {
					at = rights[at]
				}
			}
			leaf = -at - 1
		}
		v, _ := leafByWords(keys["leaf_value"][leaf])
		sums[k%len(sums)] += v
	}
	return sums
}

// someVector has whole numbers, NaN and infinities at odd features, any at others.
func someVector(r *rand.Rand, e api.Ensemble) []float64 {
	x := make([]float64, len(e.Features))
	for i := range x {
		switch k := r.IntN(8); {
		case k == 0:
			x[i] = math.NaN()
		case k == 1:
			x[i] = []float64{endless, -endless, minus0, 0, -1, 1e300, -1e300, 1 << 40}[r.IntN(8)]
		case k < 4 || i%2 == 1:
			x[i] = float64(r.IntN([]int{5, 50, 1100}[r.IntN(3)]))
		case k < 6 && len(e.Trees) > 0:
			nodes := e.Trees[r.IntN(len(e.Trees))].Nodes
			x[i] = nodes[r.IntN(len(nodes))].Threshold
		default:
			x[i] = r.NormFloat64()
		}
	}
	return x
}

// The text says what the ensemble says: of what is written, and of what is read.
func TestTheSameMeaning(t *testing.T) {
	r := source()
	for range 1500 {
		e := someForest(r)
		s, _ := Write(e)
		loose := joined(loosened(r, writeByWords(e)))
		o, why, _ := Read(loose, "m")
		if why != api.OK {
			t.Fatalf("11.1: %q: %d", loose, why)
		}
		for range 30 {
			x := someVector(r, e)
			want, why := trees.Score(e, x)
			if got := boosted(s, x); why != api.OK || !slices.Equal(got, want) {
				t.Fatalf("P10: %q says %v of %v, not %v", s, got, x, want)
			}
			want, why = trees.Score(o, x)
			if got := boosted(loose, x); why != api.OK || !slices.Equal(got, want) {
				t.Fatalf("11.5: %q says %v of %v, what is read %v", loose, got, x, want)
			}
		}
	}
}

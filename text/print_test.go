package text

import (
	"math"
	"math/rand/v2"
	"reflect"
	"slices"
	"strconv"
	"strings"
	"testing"

	"thicket/api"
	"thicket/fixed"
	"thicket/floats"
	"thicket/rules"
	"thicket/trees"
)

// printed asks that an ensemble has this text, and that the text says its Model.
func printed(t *testing.T, e api.Ensemble, want string) {
	t.Helper()
	s, why := Print(e)
	if why != api.OK || s != want {
		t.Errorf("9.2: %d, %q, not %q", why, s, want)
	}
	m, _ := trees.Model(e)
	taken(t, "9.6: Parse(Print(e))", s, m)
	if d, why, f := Dump(s); d != s || why != api.OK || f != (api.Fault{}) {
		t.Errorf("9.6: Dump of a dump: %q, %d, %v", d, why, f)
	}
}

func TestPrintExamples(t *testing.T) {
	printed(t, exampleModel(), joined(example()))
	printed(t, rightWideModel(), joined(lined("thicket 1 / name w.2-x / outputs 2 / base -0.5 7 / features 3 / feature a / feature 9 / feature in / trees 4 / "+
		"tree 1 5 / split a <= -0 to 1 4 missing right / split in in 0 7 1023 to 2 3 missing left / leaf 2 / leaf 3 / leaf 1 / "+
		"tree 0 1 / leaf -2 / tree 1 3 / split 9 in 3 to 1 2 missing right / leaf 1 / leaf 2 / tree 0 3 / split 9 <= inf to 1 2 missing left / leaf 4 / leaf 5 / end")))
	bare := api.Ensemble{Name: "-", Features: []string{"."}, Outputs: 3, Base: []int64{0, -1, 1<<62 - 1}}
	printed(t, bare, "thicket 1\nname -\noutputs 3\nbase 0 -0.000001 4611686018427.387903\nfeatures 1\nfeature .\ntrees 0\nend\n")
}

// Thresholds come back bit for bit, and are written as short as that goes.
func TestThresholds(t *testing.T) {
	bits := math.Float64frombits
	for want, v := range map[string]float64{
		"0": 0, "-0": minus0, "inf": endless, "-inf": -endless, "5e-324": bits(1), "-5e-324": bits(1 | 1<<63), "2.225073858507201e-308": bits(1<<52 - 1), "2.2250738585072014e-308": bits(1 << 52),
		"1.7976931348623157e+308": math.MaxFloat64, "-1.7976931348623157e+308": -math.MaxFloat64, "0.1": 0.1, "0.30000000000000004": bits(0x3fd3333333333334), "1e+21": 1e21, "123456789012345680000": 123456789012345680000, "1e-7": 1e-7, "0.000001": 1e-6, "0.5000000000000001": bits(0x3fe0000000000001), "-2.5": -2.5,
	} {
		e := exampleModel()
		e.Trees[0].Nodes[0].Threshold = v
		printed(t, e, joined(with(example(), 10, "split a <= "+want+" to 1 2 missing left")))
		for _, s := range []string{want, floats.Exact(v), floats.Hex(v)} {
			got, _, _ := Parse(joined(with(example(), 10, "split a<="+s+" to 1 2 missing left")))
			if len(got.Trees) != 1 || math.Float64bits(got.Trees[0].Nodes[0].Threshold) != math.Float64bits(v) {
				t.Errorf("9.1: threshold %s: %v", s, got)
			}
		}
	}
}

// Names may look like any word of the format, or like a number.
func TestNames(t *testing.T) {
	names := []string{"thicket", "name", "outputs", "base", "features", "feature", "trees", "tree", "leaf", "split", "in", "to", "missing", "left", "right", "end", "nan", "inf", "0", "1", "00", "-1", "1e5", "0x1p-1", ".", "-", "--", "_", "a-b.c_d", "A", "a", strings.Repeat("9", api.MaxName), strings.Repeat("z", api.MaxName)}
	e := api.Ensemble{Features: names, Outputs: 1, Base: []int64{0}}
	for i := range names {
		e.Trees = append(e.Trees, treeOf(0, numberOf(i, 1, left, 1, 2), leafOf(1), leafOf(2)), treeOf(0, catsOf(i, right, 2, 1, 1), leafOf(1), leafOf(2)))
	}
	for _, name := range names {
		e.Name = name
		s, why := Print(e)
		m, _ := trees.Model(e)
		if got, whyToo, f := Parse(s); why != api.OK || whyToo != api.OK || !trees.Same(got, m) {
			t.Errorf("9.6: a model of the name %s: %d, %d, %v", name, why, whyToo, f)
		}
	}
}

// Print refuses an ensemble for each rule of chapter 8 that it breaks.
func TestPrintOfNoRightEnsembles(t *testing.T) {
	for rule, spoil := range map[api.Rule]func(e *api.Ensemble){
		api.RuleName: func(e *api.Ensemble) { e.Name = "a b" }, api.RuleFeatures: func(e *api.Ensemble) { e.Features = nil }, api.RuleFeature: func(e *api.Ensemble) { e.Features[1] = "b\n" }, api.RuleTwice: func(e *api.Ensemble) { e.Features[1] = "a" },
		api.RuleOutputs: func(e *api.Ensemble) { e.Outputs = 0 }, api.RuleBase: func(e *api.Ensemble) { e.Base = nil }, api.RuleTrees: func(e *api.Ensemble) { e.Trees = make([]api.Tree, api.MaxTrees+1) },
		api.RuleOutput: func(e *api.Ensemble) { e.Trees[0].Output = 1 }, api.RuleNodes: func(e *api.Ensemble) { e.Trees[0].Nodes = nil }, api.RuleKind: func(e *api.Ensemble) { e.Trees[0].Nodes[2].Kind = 0 },
		api.RuleZero: func(e *api.Ensemble) { e.Trees[0].Nodes[2].Threshold = minus0 }, api.RuleSplit: func(e *api.Ensemble) { e.Trees[0].Nodes[0].Feature = 2 }, api.RuleThreshold: func(e *api.Ensemble) { e.Trees[0].Nodes[0].Threshold = math.NaN() },
		api.RuleCats:    func(e *api.Ensemble) { e.Trees[0].Nodes[0] = catsOf(0, left, 1, 2, 3, 3) },
		api.RuleMissing: func(e *api.Ensemble) { e.Trees[0].Nodes[0].Missing = 3 }, api.RuleKids: func(e *api.Ensemble) { e.Trees[0].Nodes[0].Right = 3 }, api.RuleTree: func(e *api.Ensemble) { e.Trees[0].Nodes[0].Right = 1 },
		api.RuleSum: func(e *api.Ensemble) { e.Base[0] = math.MinInt64 },
	} {
		e := exampleModel()
		spoil(&e)
		if b := rules.Check(e); b.Rule != rule {
			t.Fatal("no test of rule", rule, "but", b)
		}
		if s, why := Print(e); s != "" || why != api.ErrModel {
			t.Errorf("9.2: rule %d: %q, %d", rule, s, why)
		}
	}
	if s, why := Print(api.Ensemble{}); s != "" || why != api.ErrModel {
		t.Errorf("9.2: nothing: %q, %d", s, why)
	}
}

// someTree has so many leaves, its nodes but 0 numbered at random.
func someTree(r *rand.Rand, leaves int, features int, value func() int64) api.Tree {
	anew := append([]int{0}, r.Perm(2*leaves-2)...)
	for i := 1; i < len(anew); i++ {
		anew[i]++
	}
	l := make([]api.Node, 2*leaves-1)
	many := 0
	var grow func(leaves int) int
	grow = func(leaves int) int {
		at := anew[many]
		many++
		if leaves == 1 {
			l[at] = leafOf(value())
			return at
		}
		n := someSplit(r, features)
		toLeft := 1 + r.IntN(leaves-1)
		n.Left = grow(toLeft)
		n.Right = grow(leaves - toLeft)
		l[at] = n
		return at
	}
	grow(leaves)
	return treeOf(0, l...)
}

func someSplit(r *rand.Rand, features int) api.Node {
	side := []api.Side{left, right}[r.IntN(2)]
	if r.IntN(3) == 0 {
		cats := r.Perm(api.MaxCats)[:1+r.IntN(6)]
		slices.Sort(cats)
		return catsOf(r.IntN(features), side, 0, 0, cats...)
	}
	v := []float64{0, minus0, 0.5, -3, endless, -endless, math.Float64frombits(1), r.NormFloat64(), float64(float32(r.NormFloat64()))}[r.IntN(9)]
	if r.IntN(4) == 0 {
		if any := math.Float64frombits(r.Uint64()); any == any {
			v = any
		}
	}
	return numberOf(r.IntN(features), v, side, 0, 0)
}

// someForest is a right ensemble.
func someForest(r *rand.Rand) api.Ensemble {
	e := api.Ensemble{Name: "some", Outputs: 1 + r.IntN(3)}
	for i := range 1 + r.IntN(4) {
		e.Features = append(e.Features, []string{"f", "1", "-", "in", "to.x"}[(i+r.IntN(2)*5)%5]+strconv.Itoa(i))
	}
	value := func() int64 { return (r.Int64() - 1<<62) >> (5 + r.IntN(55)) }
	for range e.Outputs {
		e.Base = append(e.Base, value())
	}
	for range r.IntN(5) {
		g := someTree(r, 1+r.IntN(6), len(e.Features), value)
		g.Output = r.IntN(e.Outputs)
		e.Trees = append(e.Trees, g)
	}
	return e
}

// printByWords puts the lines of an ensemble together as they stand in it, nodes as they are numbered; how a threshold and a fixed number are written is handed in.
func printByWords(e api.Ensemble, number func(float64) string, fixedText func(int64) string) []string {
	l := []string{"thicket 1", "name " + e.Name, "outputs " + strconv.Itoa(e.Outputs)}
	base := "base"
	for _, v := range e.Base {
		base += " " + fixedText(v)
	}
	l = append(l, base, "features "+strconv.Itoa(len(e.Features)))
	for _, name := range e.Features {
		l = append(l, "feature "+name)
	}
	l = append(l, "trees "+strconv.Itoa(len(e.Trees)))
	for _, g := range e.Trees {
		l = append(l, "tree "+strconv.Itoa(g.Output)+" "+strconv.Itoa(len(g.Nodes)))
		for _, n := range g.Nodes {
			l = append(l, nodeByWords(e, n, number, fixedText))
		}
	}
	return append(l, "end")
}

func nodeByWords(e api.Ensemble, n api.Node, number func(float64) string, fixedText func(int64) string) string {
	if n.Kind == api.NodeLeaf {
		return "leaf " + fixedText(n.Value)
	}
	test := "<= " + number(n.Threshold)
	if n.Kind == api.NodeCats {
		test = "in " + counted(n.Cats)
	}
	return "split " + e.Features[n.Feature] + " " + test + " to " + strconv.Itoa(n.Left) + " " + strconv.Itoa(n.Right) + " missing " + map[api.Side]string{left: "left", right: "right"}[n.Missing]
}

// counted are numbers with a blank between.
func counted(l []int) string {
	var words []string
	for _, n := range l {
		words = append(words, strconv.Itoa(n))
	}
	return strings.Join(words, " ")
}

func TestPrintOfAnyEnsembles(t *testing.T) {
	r := source()
	for range 1500 {
		e := someForest(r)
		m, _ := trees.Model(e)
		printed(t, e, joined(printByWords(m, floats.Shortest, fixed.Print)))
		// Nodes as they are numbered, numbers written in other ways: the same ensemble, so the same dump.
		number := func(v float64) string {
			return []func(float64) string{floats.Shortest, floats.Exact, floats.Hex}[r.IntN(3)](v)
		}
		fixedText := func(v int64) string {
			s := fixed.Print(v)
			if digits, neg := strings.CutPrefix(s, "-"); neg {
				return "-00" + digits
			}
			return "0" + s
		}
		s := joined(printByWords(e, number, fixedText))
		taken(t, "9.1: numbers in other words", s, e)
		want, _ := Print(e)
		if d, why, f := Dump(s); d != want || why != api.OK || f != (api.Fault{}) {
			t.Errorf("9.6: the dump of %q is %q, %d, %v", s, d, why, f)
		}
	}
}

// Two texts have one dump just if the Models of their ensembles are the same.
func TestDumpsTellModelsApart(t *testing.T) {
	r := source()
	for range 600 {
		e := someForest(r)
		o := trees.Copy(e)
		if r.IntN(4) > 0 {
			changeOne(r, &o)
		}
		if r.IntN(2) == 0 {
			o, _ = trees.Model(o)
		}
		me, _ := trees.Model(e)
		mo, _ := trees.Model(o)
		a, why, _ := Dump(joined(printByWords(e, floats.Exact, fixed.Print)))
		b, whyToo, _ := Dump(joined(printByWords(o, floats.Shortest, fixed.Print)))
		if why != api.OK || whyToo != api.OK || (a == b) != trees.Same(me, mo) {
			t.Fatalf("9.6: %d, %d: %q and %q", why, whyToo, a, b)
		}
	}
}

// changeOne changes one thing of an ensemble, so that it stays a right one.
func changeOne(r *rand.Rand, e *api.Ensemble) {
	switch r.IntN(4) {
	case 0:
		e.Name += "x"
	case 1:
		e.Base[0] ^= 1
	case 2:
		e.Features[r.IntN(len(e.Features))] += "y"
	}
	if len(e.Trees) == 0 {
		return
	}
	nodes := e.Trees[r.IntN(len(e.Trees))].Nodes
	switch n := &nodes[r.IntN(len(nodes))]; n.Kind {
	case api.NodeLeaf:
		n.Value ^= 1
	case api.NodeNumber:
		n.Threshold = -n.Threshold
	case api.NodeCats:
		n.Missing = left + right - n.Missing
	}
}

func TestNothingIsKept(t *testing.T) {
	s, d := joined(rightWide()), joined(example())
	first, _, _ := Parse(s)
	Parse(d)
	Parse(joined(wide()))
	again, _, _ := Parse(s)
	if !trees.Same(first, rightWideModel()) || !reflect.DeepEqual(first, again) {
		t.Error("9.4: an answer hangs on the calls ahead")
	}
}

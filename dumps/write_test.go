package dumps

import (
	other "encoding/json"
	"math"
	"math/rand/v2"
	"slices"
	"strconv"
	"strings"
	"testing"

	"thicket/api"
	"thicket/fixed"
	"thicket/floats"
	"thicket/rules"
	"thicket/trees"
)

// unsaid asks that Write tells this error at this place, and nothing else.
func unsaid(t *testing.T, what string, e api.Ensemble, why api.Errno, place string) {
	t.Helper()
	if b, got, at := Write(e); b != nil || got != why || at != place {
		t.Errorf("P12.2: %s: %.80s, %d at %q, not %d at %q", what, b, got, at, why, place)
	}
}

// backOf is what a dump of an ensemble is read as: its Model, with 0 for -0.
func backOf(e api.Ensemble) api.Ensemble {
	m, _ := trees.Model(e)
	for _, g := range m.Trees {
		for i, n := range g.Nodes {
			if n.Threshold == 0 {
				g.Nodes[i].Threshold = 0
			}
		}
	}
	return m
}

// written asks for the dump of an ensemble, and that it is read back as the same.
func written(t *testing.T, e api.Ensemble, want string) {
	t.Helper()
	b, why, at := Write(e)
	if string(b) != want || why != api.OK || at != "" {
		t.Errorf("P12.2: %v: %s, %d at %q, not %s", e, b, why, at, want)
	}
	taken(t, "P12.4: there and back", string(b), e, backOf(e))
}

func TestWriteOfAll(t *testing.T) {
	written(t, dumpModel(), `[{"nodeid":0,"depth":0,"split":"b","split_condition":0.5,"yes":1,"no":4,"missing":1,"children":[`+
		`{"nodeid":1,"depth":1,"split":"a","split_condition":-1,"yes":2,"no":3,"missing":3,"children":[{"nodeid":2,"leaf":0.3},{"nodeid":3,"leaf":0.4}]},`+
		`{"nodeid":4,"depth":1,"split":"a","split_condition":[1,3],"yes":5,"no":6,"missing":6,"children":[{"nodeid":5,"leaf":0.5},{"nodeid":6,"leaf":0.6}]}]},`+
		`{"nodeid":0,"leaf":7},`+
		`{"nodeid":0,"depth":0,"split":"b","split_condition":[0],"yes":1,"no":2,"missing":1,"children":[{"nodeid":1,"leaf":1},{"nodeid":2,"leaf":2}]}]`)
	written(t, headOf(), "[]")
	// Nodes keep their numbers; Left is written first.
	e := headOf(treeOf(0, catsOf(1, left, 4, 1, 0, 1023), numberOf(0, -endless, right, 3, 2), leafOf(-1), leafOf(0), leafOf(1)))
	written(t, e, `[{"nodeid":0,"depth":0,"split":"b","split_condition":[0,1023],"yes":4,"no":1,"missing":4,"children":[{"nodeid":4,"leaf":0.000001},`+
		`{"nodeid":1,"depth":1,"split":"a","split_condition":-1.7976931348623157e+308,"yes":3,"no":2,"missing":2,"children":[{"nodeid":3,"leaf":0},{"nodeid":2,"leaf":-0.000001}]}]}]`)
}

// Conditions are the number just above a threshold.
func TestWriteOfThresholds(t *testing.T) {
	r := source()
	l := []float64{0, minus0, -endless, -greatest, least, -least, 0x1p-1022, 0x1p-1022 - 0x1p-1074, 0.1, 1e21, 1e-7, 123456789012345680000, math.Nextafter(greatest, 0), math.Nextafter(0.5, 0)}
	for range 500 {
		if v := math.Float64frombits(r.Uint64()); math.Abs(v) < greatest {
			l = append(l, v)
		}
	}
	for _, v := range l {
		for side, missing := range map[api.Side]string{left: "1", right: "2"} {
			e := headOf(treeOf(0, numberOf(1, v, side, 1, 2), leafOf(-1), leafOf(1)))
			c := floats.Shortest(math.Nextafter(v, endless) + 0)
			written(t, e, `[{"nodeid":0,"depth":0,"split":"b","split_condition":`+c+`,"yes":1,"no":2,"missing":`+missing+`,"children":[{"nodeid":1,"leaf":-0.000001},{"nodeid":2,"leaf":0.000001}]}]`)
		}
	}
	if b, _, _ := Write(headOf(treeOf(0, numberOf(0, -least, left, 1, 2), leafOf(0), leafOf(0)))); !strings.Contains(string(b), `"split_condition":0,`) {
		t.Errorf("P12.2: above the least number below 0 is 0: %s", b)
	}
}

// All that Write can't say, each alone, and the first of several.
func TestWhatCannotBeSaid(t *testing.T) {
	for _, v := range []float64{endless, greatest} {
		for _, at := range []int{0, 1} {
			e := dumpModel()
			e.Trees[0].Nodes[at].Threshold = v
			unsaid(t, "a threshold", e, api.ErrUnsaid, "tree 0 node "+strconv.Itoa(at))
			e.Trees[1].Output = 0
			e.Trees[2].Nodes[0] = numberOf(0, endless, left, 1, 2)
			unsaid(t, "the first one", e, api.ErrUnsaid, "tree 0 node "+strconv.Itoa(at))
		}
		e := dumpModel()
		e.Trees[2].Nodes[0] = numberOf(0, v, left, 1, 2)
		unsaid(t, "a threshold", e, api.ErrUnsaid, "tree 2 node 0")
	}
	// By number, not by the way from the root.
	e := headOf(treeOf(0, numberOf(0, 0, left, 4, 1), numberOf(0, endless, left, 2, 3), leafOf(1), leafOf(2), numberOf(0, endless, left, 5, 6), leafOf(3), leafOf(4)))
	unsaid(t, "the least number", e, api.ErrUnsaid, "tree 0 node 1")
	for many := 2; many <= 4; many++ {
		for k := range 3 {
			e := dumpModel()
			e.Outputs, e.Base = many, make([]int64, many)
			for i := range e.Trees {
				e.Trees[i].Output = i % many
			}
			if _, why, _ := Write(e); why != api.OK {
				t.Error("P12.2: outputs in turn:", why)
			}
			e.Trees[k].Output = (e.Trees[k].Output + 1) % many
			unsaid(t, "an output", e, api.ErrUnsaid, "tree "+strconv.Itoa(k))
			e.Trees[0].Nodes[0].Threshold = endless
			unsaid(t, "an output comes ahead of a threshold", e, api.ErrUnsaid, "tree "+strconv.Itoa(k))
			e.Trees[2].Output = (k + 2) % many
			if k < 2 {
				unsaid(t, "the first output", e, api.ErrUnsaid, "tree "+strconv.Itoa(k))
			}
			e.Name = ""
			unsaid(t, "a broken rule comes first", e, api.ErrModel, "rule 1")
		}
	}
}

func TestWriteOfWrongEnsembles(t *testing.T) {
	for say, spoil := range map[string]func(*api.Ensemble){
		"rule 1": func(e *api.Ensemble) { e.Name = "a b" }, "rule 2": func(e *api.Ensemble) { e.Features = nil }, "rule 3 node 1": func(e *api.Ensemble) { e.Features[1] = "b\n" }, "rule 4 node 1": func(e *api.Ensemble) { e.Features[1] = "a" },
		"rule 5": func(e *api.Ensemble) { e.Outputs = 0 }, "rule 6": func(e *api.Ensemble) { e.Base = nil }, "rule 7": func(e *api.Ensemble) { e.Trees = make([]api.Tree, api.MaxTrees+1) },
		"rule 11 tree 0": func(e *api.Ensemble) { e.Trees[0].Output = 2 }, "rule 12 tree 0": func(e *api.Ensemble) { e.Trees[0].Nodes = nil }, "rule 13 tree 0 node 2": func(e *api.Ensemble) { e.Trees[0].Nodes[2].Kind = 0 },
		"rule 14 tree 0 node 2": func(e *api.Ensemble) { e.Trees[0].Nodes[2].Threshold = minus0 }, "rule 15 tree 0 node 0": func(e *api.Ensemble) { e.Trees[0].Nodes[0].Feature = 3 }, "rule 16 tree 0 node 0": func(e *api.Ensemble) { e.Trees[0].Nodes[0].Threshold = math.NaN() },
		"rule 17 tree 2 node 0": func(e *api.Ensemble) { e.Trees[2].Nodes[0].Cats = []int{3, 3} }, "rule 18 tree 0 node 0": func(e *api.Ensemble) { e.Trees[0].Nodes[0].Missing = 3 }, "rule 19 tree 0 node 0": func(e *api.Ensemble) { e.Trees[0].Nodes[0].Right = 7 },
		"rule 20 tree 0 node 1": func(e *api.Ensemble) { e.Trees[0].Nodes[0].Right = 1 }, "rule 31 node 0": func(e *api.Ensemble) { e.Trees[1].Nodes[0].Value = math.MinInt64 },
	} {
		e := dumpModel()
		spoil(&e)
		unsaid(t, say, e, api.ErrModel, say)
	}
	unsaid(t, "nothing", api.Ensemble{}, api.ErrModel, "rule 1")
}

// someTree has so many leaves, its nodes but 0 numbered at random.
func someTree(r *rand.Rand, leaves int, features int) api.Tree {
	anew := append([]int{0}, r.Perm(2*leaves-2)...)
	for i := 1; i < len(anew); i++ {
		anew[i]++
	}
	l := make([]api.Node, 2*leaves-1)
	many := 0
	var grow func(leaves int) int
	grow = func(leaves int) int {
		at := anew[many]
		many++
		if leaves == 1 {
			l[at] = leafOf((r.Int64() - 1<<62) >> (5 + r.IntN(55)))
			return at
		}
		n := someSplit(r, features)
		toLeft := 1 + r.IntN(leaves-1)
		n.Left = grow(toLeft)
		n.Right = grow(leaves - toLeft)
		l[at] = n
		return at
	}
	grow(leaves)
	return treeOf(0, l...)
}

func someSplit(r *rand.Rand, features int) api.Node {
	side := []api.Side{left, right}[r.IntN(2)]
	if r.IntN(3) == 0 {
		cats := r.Perm([]int{4, 40, api.MaxCats}[r.IntN(3)])[:1+r.IntN(4)]
		slices.Sort(cats)
		return catsOf(r.IntN(features), side, 0, 0, cats...)
	}
	v := []float64{0, minus0, 0.5, -3, 1, 3, -endless, least, -least, r.NormFloat64()}[r.IntN(10)]
	if any := math.Float64frombits(r.Uint64()); any < greatest && r.IntN(4) == 0 {
		v = any
	}
	return numberOf(r.IntN(features), v, side, 0, 0)
}

// someForest is a right ensemble that can be said.
func someForest(r *rand.Rand) api.Ensemble {
	e := api.Ensemble{Name: "m", Outputs: 1 + r.IntN(3)}
	for i := range 1 + r.IntN(4) {
		e.Features = append(e.Features, []string{"f", "1", "-", "leaf", "x.y"}[r.IntN(5)]+strconv.Itoa(i))
	}
	for range e.Outputs {
		e.Base = append(e.Base, r.Int64N(1<<50)-1<<49)
	}
	for k := range r.IntN(5) {
		g := someTree(r, 1+r.IntN(7), len(e.Features))
		g.Output = k % e.Outputs
		e.Trees = append(e.Trees, g)
	}
	return e
}

// writeByWords puts a node's text together.
func writeByWords(e api.Ensemble, g api.Tree, i, depth int) string {
	n := g.Nodes[i]
	if n.Kind == api.NodeLeaf {
		return `{"nodeid":` + strconv.Itoa(i) + `,"leaf":` + fixed.Print(n.Value) + "}"
	}
	name, _ := other.Marshal(e.Features[n.Feature])
	condition := floats.Shortest(math.Nextafter(n.Threshold, endless) + 0)
	if n.Kind == api.NodeCats {
		cats, _ := other.Marshal(n.Cats)
		condition = string(cats)
	}
	ways := map[api.Side]int{left: n.Left, right: n.Right}
	return `{"nodeid":` + strconv.Itoa(i) + `,"depth":` + strconv.Itoa(depth) + `,"split":` + string(name) + `,"split_condition":` + condition + `,"yes":` + strconv.Itoa(n.Left) + `,"no":` + strconv.Itoa(n.Right) + `,"missing":` + strconv.Itoa(ways[n.Missing]) +
		`,"children":[` + writeByWords(e, g, n.Left, depth+1) + "," + writeByWords(e, g, n.Right, depth+1) + "]}"
}

func dumpByWords(e api.Ensemble) string {
	var l []string
	for _, g := range e.Trees {
		l = append(l, writeByWords(e, g, 0, 0))
	}
	return "[" + strings.Join(l, ",") + "]"
}

func TestThereAndBack(t *testing.T) {
	r := source()
	for range 3000 {
		e := someForest(r)
		written(t, e, dumpByWords(e))
	}
}

// descended goes through a dump by "less than", yes, no and missing: for each output its base and the sum of the leaves.
func descended(dump any, head api.Ensemble, x []float64) []int64 {
	sums := slices.Clone(head.Base)
	for k, v := range dump.([]any) {
		n := v.(map[string]any)
		for n["leaf"] == nil {
			to := n["no"]
			v := x[slices.Index(head.Features, n["split"].(string))]
			switch c := n["split_condition"].(type) {
			case other.Number:
				if f, _ := strconv.ParseFloat(c.String(), 64); v < f {
					to = n["yes"]
				}
			case []any:
				for _, item := range c {
					if f, _ := strconv.ParseFloat(item.(other.Number).String(), 64); v == f {
						to = n["yes"]
					}
				}
			}
			if math.IsNaN(v) {
				to = n["missing"]
			}
			children := n["children"].([]any)
			next := children[0].(map[string]any)
			if next["nodeid"] != to {
				next = children[1].(map[string]any)
			}
			n = next
		}
		value, _ := leafByWords(n["leaf"])
		sums[k%len(sums)] += value
	}
	return sums
}

func someVector(r *rand.Rand, e api.Ensemble) []float64 {
	x := make([]float64, len(e.Features))
	for i := range x {
		switch k := r.IntN(8); {
		case k == 0:
			x[i] = math.NaN()
		case k == 1:
			x[i] = []float64{endless, -endless, minus0, 0, least, -least, greatest, -greatest, 1.5}[r.IntN(9)]
		case k < 4:
			x[i] = float64(r.IntN([]int{5, 50, 1100}[r.IntN(3)]))
		case k < 7 && len(e.Trees) > 0: // a threshold or one of its neighbours
			nodes := e.Trees[r.IntN(len(e.Trees))].Nodes
			v := nodes[r.IntN(len(nodes))].Threshold
			x[i] = []float64{v, math.Nextafter(v, endless), math.Nextafter(v, -endless)}[r.IntN(3)]
		default:
			x[i] = r.NormFloat64()
		}
	}
	return x
}

// The dump says what the ensemble says: of what is written, and of what is read.
func TestTheSameMeaning(t *testing.T) {
	r := source()
	for range 1000 {
		e := someForest(r)
		b, why, _ := Write(e)
		if why != api.OK {
			t.Fatal("P12.2:", why)
		}
		loose := []byte(loosened(r, string(b)))
		o, why, at := Read(loose, e)
		if why != api.OK {
			t.Fatalf("P12.1: %s: %d at %s", loose, why, at)
		}
		said, saidLoose := parsed(b), parsed(loose)
		for range 30 {
			x := someVector(r, e)
			want, why := trees.Score(e, x)
			if got := descended(said, e, x); why != api.OK || !slices.Equal(got, want) {
				t.Fatalf("P10: %s says %v of %v, not %v", b, got, x, want)
			}
			want, why = trees.Score(o, x)
			if got := descended(saidLoose, e, x); why != api.OK || !slices.Equal(got, want) {
				t.Fatalf("P12.5: %s says %v of %v, what is read %v", loose, got, x, want)
			}
		}
	}
}

// loosened has children turned, more names, other conditions and leaves.
func loosened(r *rand.Rand, s string) string {
	v := parsed([]byte(s))
	var turn func(v any)
	turn = func(v any) {
		switch x := v.(type) {
		case []any:
			for _, item := range x {
				turn(item)
			}
		case map[string]any:
			if l, ok := x["children"].([]any); ok && r.IntN(2) == 0 {
				l[0], l[1] = l[1], l[0]
			}
			if r.IntN(3) == 0 {
				x["gain"], x["cover"] = 1.5, []any{map[string]any{"nodeid": 1}}
			}
			if _, ok := x["split_condition"].(other.Number); ok && r.IntN(3) == 0 {
				x["split_condition"] = other.Number([]string{"0", "-0", "1e400", "-1e308", "5e-324", "0.1", "1E0"}[r.IntN(7)])
			}
			if _, ok := x["leaf"]; ok && r.IntN(3) == 0 {
				x["leaf"] = other.Number([]string{"0.0000005", "-1.5e-6", "1e3", "-0"}[r.IntN(4)])
			}
			for _, item := range x {
				turn(item)
			}
		}
	}
	turn(v)
	b, _ := other.MarshalIndent(v, "", " ")
	return string(b)
}

// What was read is written, if it has no threshold that can't be, and read as the same.
func TestBackAndThere(t *testing.T) {
	r := source()
	for range 1500 {
		e := someForest(r)
		s := loosened(r, dumpByWords(e))
		judgedByWords(t, "loose dumps", s, e)
		o, why, at := Read([]byte(s), e)
		if why != api.OK || at != "" {
			t.Fatalf("P12.1: %s: %d at %q", s, why, at)
		}
		b, why, at := Write(o)
		if why == api.ErrUnsaid {
			if !strings.Contains(s, "1e400") || !strings.HasPrefix(at, "tree ") {
				t.Fatalf("P12.2: %s: unsaid at %q", s, at)
			}
			continue
		}
		if !rules.Valid(o) || why != api.OK {
			t.Fatalf("P12.6: %s: %d", s, why)
		}
		taken(t, "P12.4: what was read", string(b), e, o)
	}
}

package code

import (
	"fmt"
	"math"
	"math/rand/v2"
	"slices"
	"testing"

	"thicket/api"
	"thicket/trees"
)

const (
	left  = api.SideLeft
	right = api.SideRight
)

var (
	nan     = math.NaN()
	endless = math.Inf(1)
	minus0  = math.Copysign(0, -1)
)

func source() *rand.Rand { return rand.New(rand.NewPCG(19, 19)) }

func leafOf(v int64) api.Node { return api.Node{Kind: api.NodeLeaf, Value: v} }

func numberOf(feature int, threshold float64, missing api.Side, l, r int) api.Node {
	return api.Node{Kind: api.NodeNumber, Feature: feature, Threshold: threshold, Missing: missing, Left: l, Right: r}
}

func catsOf(feature int, missing api.Side, l, r int, cats ...int) api.Node {
	return api.Node{Kind: api.NodeCats, Feature: feature, Cats: cats, Missing: missing, Left: l, Right: r}
}

func treeOf(l ...api.Node) api.Tree { return api.Tree{Nodes: l} }

// ensemble has these trees, so many features and an output.
func ensemble(features int, l ...api.Tree) api.Ensemble {
	return api.Ensemble{Name: "m", Features: make([]string, features), Outputs: 1, Base: []int64{100}, Trees: l}
}

// example is the chapter's ensemble.
func example() api.Ensemble {
	e := ensemble(1, treeOf(numberOf(0, 0.5, left, 1, 2), leafOf(api.Unit), leafOf(0)))
	e.Base[0] = 2 * api.Unit
	return e
}

func test(feature int, threshold float64, missing api.Side, to int) api.Op {
	return api.Op{Kind: api.OpTest, Feature: feature, Threshold: threshold, Missing: missing, To: to}
}

func in(feature int, missing api.Side, to int, cats ...int) api.Op {
	return api.Op{Kind: api.OpIn, Feature: feature, Cats: cats, Missing: missing, To: to}
}

func plus(output int, v int64) api.Op {
	return api.Op{Kind: api.OpAdd, Output: output, Value: v}
}

func leap(to int) api.Op { return api.Op{Kind: api.OpJump, To: to} }

func end() api.Op { return api.Op{Kind: api.OpEnd} }

func program(features, outputs int, l ...api.Op) api.Program {
	return api.Program{Features: features, Outputs: outputs, Ops: l}
}

// oneNaN is a program with one NaN for each: of a NaN that is answered no more is said than that it is one.
func oneNaN(p api.Program) api.Program {
	p.Ops = slices.Clone(p.Ops)
	for i, o := range p.Ops {
		if math.IsNaN(o.Threshold) {
			p.Ops[i].Threshold = nan
		}
	}
	return p
}

// isCode holds a program that was answered to what it should be.
func isCode(t *testing.T, what string, p api.Program, why api.Errno, want api.Program) {
	t.Helper()
	if why != api.OK || !Same(oneNaN(p), oneNaN(want)) || fmt.Sprint(p) != fmt.Sprint(want) {
		t.Errorf("%s: %v, %d, not %v", what, p, why, want)
	}
}

// noCode holds an answer to an error, with which nothing else is told.
func noCode(t *testing.T, what string, p api.Program, why, want api.Errno) {
	t.Helper()
	if why != want {
		t.Errorf("%s: %d, not %d", what, why, want)
	}
	if p.Features != 0 || p.Outputs != 0 || p.Ops != nil {
		t.Errorf("P2: %s: %v beside an error", what, p)
	}
}

// does holds a right program to its sums and its trace of a vector.
func does(t *testing.T, what string, p api.Program, x []float64, sums []int64, trace []int) {
	t.Helper()
	l, n, why := Run(p, x)
	if why != api.OK || n != len(trace) || !slices.Equal(l, sums) {
		t.Errorf("19.3: %s: Run(%v) = %v, %d, %d, not %v in %d", what, x, l, n, why, sums, len(trace))
	}
	if l, why := Trace(p, x); why != api.OK || !slices.Equal(l, trace) {
		t.Errorf("19.3: %s: Trace(%v) = %v, %d, not %v", what, x, l, why, trace)
	}
}

// refused holds all that take a program to Check's error, whatever the vector is.
func refused(t *testing.T, what string, p api.Program, want api.Errno, place int) {
	t.Helper()
	if why, at := Check(p); why != want || at != place {
		t.Errorf("19.1: %s: Check(%v) = %d at %d, not %d at %d", what, p, why, at, want, place)
	}
	for _, x := range [][]float64{nil, {1}, {1, 2}, make([]float64, 3)} {
		l, n, why := Run(p, x)
		if why != want || l != nil || n != 0 {
			t.Errorf("19.1: %s: Run = %v, %d, %d, not %d", what, l, n, why, want)
		}
		if l, why := Trace(p, x); why != want || l != nil {
			t.Errorf("19.1: %s: Trace = %v, %d, not %d", what, l, why, want)
		}
	}
	q, why := Tidy(p)
	noCode(t, "19.1: "+what+": Tidy", q, why, want)
	if s, why := Print(p); why != want || s != "" {
		t.Errorf("19.1: %s: Print = %q, %d, not %d", what, s, why, want)
	}
}

// taken holds them to no error.
func taken(t *testing.T, what string, p api.Program) {
	t.Helper()
	if why, at := Check(p); why != api.OK || at != 0 {
		t.Errorf("19.1: %s: Check(%v) = %d at %d", what, p, why, at)
		return
	}
	if _, _, why := Run(p, make([]float64, p.Features)); why != api.OK {
		t.Errorf("19.1: %s: Run: %d", what, why)
	}
	if _, why := Trace(p, make([]float64, p.Features)); why != api.OK {
		t.Errorf("19.1: %s: Trace: %d", what, why)
	}
	if _, why := Tidy(p); why != api.OK {
		t.Errorf("19.1: %s: Tidy: %d", what, why)
	}
	s, why := Print(p)
	if why != api.OK {
		t.Errorf("19.1: %s: Print: %d", what, why)
	}
	if q, why, at := Read(s); why != api.OK || at != 0 || !Same(p, q) {
		t.Errorf("19.10: %s: %v of %q, %d at %d", what, q, s, why, at)
	}
}

func TestExamples(t *testing.T) {
	p, why := Compile(example())
	isCode(t, "19.2: example 1", p, why, program(1, 1, plus(0, 2*api.Unit), test(0, 0.5, left, 4), plus(0, api.Unit), leap(5), plus(0, 0), end()))
	does(t, "example 2", p, []float64{0.5}, []int64{3 * api.Unit}, []int{0, 1, 2, 3, 5})
	does(t, "example 2", p, []float64{0.6}, []int64{2 * api.Unit}, []int{0, 1, 4, 5})
	does(t, "example 2", p, []float64{nan}, []int64{3 * api.Unit}, []int{0, 1, 2, 3, 5})
	q, why := Tidy(p)
	isCode(t, "19.4: example 3", q, why, program(1, 1, plus(0, 2*api.Unit), test(0, 0.5, left, 3), plus(0, api.Unit), end()))
	refused(t, "example 4", program(1, 1, leap(0)), api.ErrCode, 0)
	refused(t, "example 4", program(1, 1, plus(0, 0)), api.ErrCode, 0)
	refused(t, "example 4", program(1, 0, end()), api.ErrSize, 0)
	refused(t, "example 4", program(1, 1), api.ErrCode, 0)
	r, why, at := Read("code 1 1\nin 0 of 1 3 missing right else 1\nend")
	isCode(t, "19.6: example 5", r, why, program(1, 1, in(0, right, 1, 1, 3), end()))
	if at != 0 {
		t.Error("19.6: example 5: at", at)
	}
	for s, line := range map[string]int{"code 1 1\nstop": 2, "": 0, "# x\nend": 2} {
		noRead(t, "19.6: example 5", s, line)
	}
	// That of DOC.md: T with base 0.5, and its leaves 1 and -2.25.
	e := ensemble(2, treeOf(numberOf(0, 0.5, left, 1, 2), leafOf(1000000), leafOf(-2250000)))
	e.Base[0] = 500000
	p, _ = Compile(e)
	p, _ = Tidy(p)
	s, why := Print(p)
	if want := "code 2 1\nadd 0 0.5\ntest 0 <= 0.5 missing left else 4\nadd 0 1\njump 5\nadd 0 -2.25\nend\n"; why != api.OK || s != want {
		t.Errorf("19.5: %q, %d, not %q", s, why, want)
	}
	for _, x := range []struct {
		x    []float64
		want int64
	}{{[]float64{0, 0}, 1500000}, {[]float64{1, 0}, -1750000}, {[]float64{nan, 7}, 1500000}, {[]float64{endless, minus0}, -1750000}} {
		if l, _, why := Run(p, x.x); why != api.OK || len(l) != 1 || l[0] != x.want {
			t.Errorf("P5: %v: %v, %d, not %d", x.x, l, why, x.want)
		}
	}
}

// allKinds is a right program that has each kind of operation.
func allKinds() api.Program {
	return program(3, 2, test(2, 1.5, left, 3), plus(1, 5), leap(5), in(1, right, 6, 1, 3), end(), plus(0, -7), end())
}

func TestHeads(t *testing.T) {
	for _, features := range []int{0, 1, 2, api.MaxFeatures - 1, api.MaxFeatures} {
		taken(t, "features", program(features, 1, end()))
	}
	for _, outputs := range []int{1, 2, api.MaxOutputs - 1, api.MaxOutputs} {
		taken(t, "outputs", program(0, outputs, end()))
		taken(t, "outputs", program(0, outputs, plus(outputs-1, 1), end()))
	}
	for _, features := range []int{-1, math.MinInt, api.MaxFeatures + 1, math.MaxInt} {
		refused(t, "features", program(features, 1, end()), api.ErrSize, 0)
		refused(t, "features, and no operation", program(features, 1), api.ErrSize, 0)
		refused(t, "features, and a wrong one", program(features, 1, end(), leap(0)), api.ErrSize, 0)
	}
	for _, outputs := range []int{0, -1, math.MinInt, api.MaxOutputs + 1, math.MaxInt} {
		refused(t, "outputs", program(1, outputs, end()), api.ErrSize, 0)
		refused(t, "outputs, and no operation", program(1, outputs), api.ErrSize, 0)
		refused(t, "outputs, and a wrong one", program(1, outputs, end(), leap(0)), api.ErrSize, 0)
	}
	refused(t, "nothing", api.Program{}, api.ErrSize, 0)
	refused(t, "no operations", program(0, 1), api.ErrCode, 0)
	refused(t, "no operations", api.Program{Features: 5, Outputs: 5, Ops: []api.Op{}}, api.ErrCode, 0)
}

// change is a way to change an operation.
type change struct {
	what string
	do   func(o *api.Op)
}

// strangers are changes of a field alone, to what it is not where a kind does not use it.
func strangers() map[string][]change {
	return map[string][]change{
		"Feature":   {{"Feature 1", func(o *api.Op) { o.Feature = 1 }}, {"Feature -1", func(o *api.Op) { o.Feature = -1 }}},
		"Threshold": {{"Threshold 1", func(o *api.Op) { o.Threshold = 1 }}, {"Threshold -0", func(o *api.Op) { o.Threshold = minus0 }}, {"Threshold NaN", func(o *api.Op) { o.Threshold = nan }}, {"Threshold 5e-324", func(o *api.Op) { o.Threshold = 5e-324 }}},
		"Cats":      {{"Cats 0", func(o *api.Op) { o.Cats = []int{0} }}, {"Cats 1 2", func(o *api.Op) { o.Cats = []int{1, 2} }}},
		"Missing":   {{"Missing left", func(o *api.Op) { o.Missing = left }}, {"Missing right", func(o *api.Op) { o.Missing = right }}, {"Missing 3", func(o *api.Op) { o.Missing = 3 }}},
		"Output":    {{"Output 1", func(o *api.Op) { o.Output = 1 }}, {"Output -1", func(o *api.Op) { o.Output = -1 }}},
		"Value":     {{"Value 1", func(o *api.Op) { o.Value = 1 }}, {"Value -2^63", func(o *api.Op) { o.Value = math.MinInt64 }}},
		"To":        {{"To 6", func(o *api.Op) { o.To = 6 }}, {"To -1", func(o *api.Op) { o.To = -1 }}},
	}
}

// Each field that a kind does not use, set alone.
func TestUnusedFields(t *testing.T) {
	uses := map[api.OpKind]string{api.OpTest: "Feature Threshold Missing To", api.OpIn: "Feature Cats Missing To", api.OpAdd: "Output Value", api.OpJump: "To", api.OpEnd: ""}
	for i, o := range allKinds().Ops {
		for field, l := range strangers() {
			if slices.Contains(fieldsOf(uses[o.Kind]), field) {
				continue
			}
			for _, c := range l {
				p := allKinds()
				c.do(&p.Ops[i])
				refused(t, fmt.Sprintf("operation %d of kind %d: %s", i, o.Kind, c.what), p, api.ErrCode, i)
			}
		}
		// Nothing but a list without a number is the same as none.
		p := allKinds()
		if o.Kind != api.OpIn {
			p.Ops[i].Cats = []int{}
			taken(t, "an empty list", p)
		}
	}
}

func fieldsOf(s string) []string {
	var l []string
	for _, f := range []string{"Feature", "Threshold", "Cats", "Missing", "Output", "Value", "To"} {
		for i := 0; i+len(f) <= len(s); i++ {
			if s[i:i+len(f)] == f {
				l = append(l, f)
			}
		}
	}
	return l
}

// edges are changes of fields that an operation uses, and whether it is right then: of allKinds's operation of that number.
func edges() []struct {
	change
	at int
	ok bool
} {
	type edge = struct {
		change
		at int
		ok bool
	}
	var l []edge
	for _, at := range []int{0, 3} {
		for v, ok := range map[int]bool{0: true, 1: true, 2: true, 3: false, -1: false, math.MaxInt: false, math.MinInt: false} {
			l = append(l, edge{change{fmt.Sprint("Feature ", v), func(o *api.Op) { o.Feature = v }}, at, ok})
		}
		for v := range 256 {
			l = append(l, edge{change{fmt.Sprint("Missing ", v), func(o *api.Op) { o.Missing = api.Side(v) }}, at, v == 1 || v == 2})
		}
	}
	for _, at := range []int{0, 2, 3} {
		for to := -2; to <= 9; to++ {
			l = append(l, edge{change{fmt.Sprint("To ", to), func(o *api.Op) { o.To = to }}, at, to >= at+1 && to <= 6})
		}
		for _, to := range []int{math.MinInt, math.MaxInt} {
			l = append(l, edge{change{fmt.Sprint("To ", to), func(o *api.Op) { o.To = to }}, at, false})
		}
	}
	for v, ok := range map[float64]bool{0: true, minus0: true, endless: true, -endless: true, 5e-324: true, -math.MaxFloat64: true} {
		l = append(l, edge{change{fmt.Sprint("Threshold ", v), func(o *api.Op) { o.Threshold = v }}, 0, ok})
	}
	l = append(l, edge{change{"Threshold -0", func(o *api.Op) { o.Threshold = minus0 }}, 0, true})
	for _, bits := range []uint64{0x7ff8000000000001, 0xfff8000000000000, 0x7ff0000000000001, 0xffffffffffffffff} {
		l = append(l, edge{change{fmt.Sprintf("Threshold %x", bits), func(o *api.Op) { o.Threshold = math.Float64frombits(bits) }}, 0, false})
	}
	all := make([]int, api.MaxCats)
	for i := range all {
		all[i] = i
	}
	for _, c := range []struct {
		cats []int
		ok   bool
	}{
		{nil, false}, {[]int{}, false}, {[]int{0}, true}, {[]int{-1}, false}, {[]int{api.MaxCats - 1}, true}, {[]int{api.MaxCats}, false}, {[]int{0, api.MaxCats - 1}, true}, {[]int{0, api.MaxCats}, false},
		{[]int{3, 3}, false}, {[]int{3, 2}, false}, {[]int{1, 2, 2}, false}, {[]int{1, 3, 2}, false}, {[]int{-1, 0}, false}, {[]int{math.MinInt, 1}, false}, {[]int{1, math.MaxInt}, false}, {all, true}, {append(slices.Clone(all), 1024), false}, {append([]int{0}, all...), false},
	} {
		l = append(l, edge{change{fmt.Sprint("Cats ", c.cats), func(o *api.Op) { o.Cats = c.cats }}, 3, c.ok})
	}
	for _, at := range []int{1, 5} {
		for v, ok := range map[int]bool{0: true, 1: true, 2: false, -1: false, 64: false, math.MaxInt: false, math.MinInt: false} {
			l = append(l, edge{change{fmt.Sprint("Output ", v), func(o *api.Op) { o.Output = v }}, at, ok})
		}
		for _, v := range []int64{0, 1, -1, math.MaxInt64, math.MinInt64} {
			l = append(l, edge{change{fmt.Sprint("Value ", v), func(o *api.Op) { o.Value = v }}, at, true})
		}
	}
	for at := range allKinds().Ops {
		for v := range 256 {
			kind := api.OpKind(v)
			l = append(l, edge{change{fmt.Sprint("alone, of kind ", v), func(o *api.Op) { *o = api.Op{Kind: kind} }}, at, kind == api.OpEnd || kind == api.OpAdd && at < 6})
			if v == 0 || v > int(api.OpEnd) {
				l = append(l, edge{change{fmt.Sprint("Kind ", v), func(o *api.Op) { o.Kind = kind }}, at, false})
			}
		}
	}
	return l
}

// Each field that a kind uses, at its edges.
func TestUsedFields(t *testing.T) {
	for _, e := range edges() {
		p := allKinds()
		e.do(&p.Ops[e.at])
		if what := fmt.Sprintf("operation %d: %s", e.at, e.what); e.ok {
			taken(t, what, p)
		} else {
			refused(t, what, p, api.ErrCode, e.at)
		}
	}
}

// Where two are wrong, the first is told.
func TestFirstWrong(t *testing.T) {
	spoils := []change{{"no kind", func(o *api.Op) { o.Kind = 0 }}, {"beyond the last kind", func(o *api.Op) { o.Kind = api.OpCount }}, {"To", func(o *api.Op) { o.To = -1 }}, {"Feature", func(o *api.Op) { o.Feature = -1 }}}
	for _, one := range spoils {
		for _, other := range spoils {
			for i := range allKinds().Ops {
				for k := range i {
					p := allKinds()
					one.do(&p.Ops[i])
					other.do(&p.Ops[k])
					refused(t, fmt.Sprintf("%s at %d, %s at %d", one.what, i, other.what, k), p, api.ErrCode, k)
				}
			}
		}
	}
	p := allKinds()
	p.Ops[6] = plus(0, 1)
	p.Ops[2].To = 2
	refused(t, "no end, and a jump to itself", p, api.ErrCode, 2)
}

// The last one is an OpEnd; an OpEnd may stand elsewhere too.
func TestLast(t *testing.T) {
	for i, o := range allKinds().Ops {
		p := allKinds()
		p.Ops = append(p.Ops, o)
		if o.Kind == api.OpEnd {
			taken(t, "an end", p)
			continue
		}
		for to := -1; to <= 8; to++ {
			if o.Kind != api.OpAdd {
				p.Ops[7].To = to
			}
			refused(t, fmt.Sprintf("operation %d at last", i), p, api.ErrCode, 7)
		}
	}
	taken(t, "ends alone", program(0, 1, end(), end(), end()))
	taken(t, "an end in the middle", program(1, 1, test(0, 0, left, 2), end(), plus(0, 1), end()))
	taken(t, "each kind", allKinds())
	// To is at most the number of the last one.
	for to := range 5 {
		p := program(1, 1, plus(0, 1), leap(to), plus(0, 1), end())
		if to == 2 || to == 3 {
			taken(t, "To", p)
		} else {
			refused(t, "To", p, api.ErrCode, 1)
		}
	}
}

func TestRun(t *testing.T) {
	p := allKinds()
	below, above := math.Nextafter(1.5, 0), math.Nextafter(1.5, 2)
	for _, v := range []float64{1.5, below, 0, minus0, -endless, nan} {
		does(t, "left", p, []float64{7, 7, v}, []int64{-7, 5}, []int{0, 1, 2, 5, 6})
	}
	for _, v := range []float64{1, 3} {
		does(t, "in", p, []float64{7, v, above}, []int64{0, 0}, []int{0, 3, 4})
		does(t, "in", p, []float64{7, v, endless}, []int64{0, 0}, []int{0, 3, 4})
	}
	for _, v := range []float64{0, minus0, 2, 1.5, nan, endless, -1, 4, math.Nextafter(1, 2), 1 << 60} {
		does(t, "out", p, []float64{7, v, above}, []int64{0, 0}, []int{0, 3, 6})
	}
	for _, x := range [][]float64{nil, {}, {1}, {1, 2}, {1, 2, 3, 4}, make([]float64, 100)} {
		l, n, why := Run(p, x)
		if why != api.ErrVector || l != nil || n != 0 {
			t.Errorf("19.3: a vector of %d: %v, %d, %d", len(x), l, n, why)
		}
		if l, why := Trace(p, x); why != api.ErrVector || l != nil {
			t.Errorf("19.3: a vector of %d: Trace: %v, %d", len(x), l, why)
		}
	}
	// What is missing goes where it is told, be it left or right.
	for _, side := range []api.Side{left, right} {
		for _, o := range []api.Op{test(0, endless, side, 2), test(0, -endless, side, 2), in(0, side, 2, 0)} {
			want := []int{0, 1, 2}
			if side == right {
				want = []int{0, 2}
			}
			does(t, "missing", program(1, 1, o, plus(0, 0), end()), []float64{nan}, []int64{0}, want)
		}
	}
	// Noughts are one.
	for _, a := range []float64{0, minus0} {
		for _, b := range []float64{0, minus0} {
			does(t, "noughts", program(1, 1, test(0, a, right, 2), plus(0, 1), end()), []float64{b}, []int64{1}, []int{0, 1, 2})
		}
		does(t, "noughts", program(1, 1, in(0, right, 2, 0, 1), plus(0, 1), end()), []float64{a}, []int64{1}, []int{0, 1, 2})
	}
	for _, v := range []float64{endless, -endless} {
		does(t, "endless", program(1, 1, test(0, v, right, 2), plus(0, 1), end()), []float64{v}, []int64{1}, []int{0, 1, 2})
	}
	does(t, "no features", program(0, 1, plus(0, 3), end()), nil, []int64{3}, []int{0, 1})
	does(t, "no features", program(0, 1, plus(0, 3), end()), []float64{}, []int64{3}, []int{0, 1})
	does(t, "an end in the middle", program(0, 3, plus(2, 3), end(), plus(1, 1), end()), nil, []int64{0, 0, 3}, []int{0, 1})
}

// Sums wrap as int64 do.
func TestWrap(t *testing.T) {
	most, least := int64(math.MaxInt64), int64(math.MinInt64)
	does(t, "one more", program(0, 2, plus(1, most), plus(0, least), plus(1, 1), plus(0, -1), end()), nil, []int64{most, least}, []int{0, 1, 2, 3, 4})
	does(t, "twice", program(0, 1, plus(0, least), plus(0, least), end()), nil, []int64{0}, []int{0, 1, 2})
	e := ensemble(1, treeOf(leafOf(most)), treeOf(leafOf(most)), treeOf(leafOf(3)))
	e.Base[0] = most
	p, why := Compile(e)
	if why != api.OK {
		t.Fatal("19.2: sums that wrap:", why)
	}
	want, _ := trees.Score(e, []float64{1})
	does(t, "an ensemble whose sums wrap", p, []float64{1}, want, []int{0, 1, 2, 3, 4})
}

func TestSame(t *testing.T) {
	others := []func(p *api.Program){
		func(p *api.Program) { p.Features++ }, func(p *api.Program) { p.Outputs++ }, func(p *api.Program) { p.Ops = p.Ops[:6] }, func(p *api.Program) { p.Ops = nil },
		func(p *api.Program) { p.Ops = append(p.Ops, end()) }, func(p *api.Program) { p.Ops[0], p.Ops[1] = p.Ops[1], p.Ops[0] },
		func(p *api.Program) { p.Ops[3].Cats[0] = 0 }, func(p *api.Program) { p.Ops[3].Cats = append(p.Ops[3].Cats, 4) }, func(p *api.Program) { p.Ops[3].Cats = nil }, func(p *api.Program) { p.Ops[3].Cats[0], p.Ops[3].Cats[1] = 3, 1 },
	}
	for i := range allKinds().Ops {
		for _, l := range strangers() {
			for _, c := range l {
				q := allKinds()
				c.do(&q.Ops[i])
				if fmt.Sprintf("%#v", q) == fmt.Sprintf("%#v", allKinds()) {
					continue // it had that already
				}
				others = append(others, func(p *api.Program) { c.do(&p.Ops[i]) })
			}
		}
		others = append(others, func(p *api.Program) { p.Ops[i].Kind++ }, func(p *api.Program) { p.Ops[i].Missing += 3 })
	}
	for i, do := range others {
		p, q := allKinds(), allKinds()
		do(&q)
		if Same(p, q) || Same(q, p) {
			t.Errorf("19.7: change %d: %v is the same as %v", i, q, p)
		}
		if do(&p); !Same(p, q) || !Same(p, p) {
			t.Errorf("19.7: change %d, of both: %v is not the same as %v", i, q, p)
		}
	}
	with := func(v float64) api.Program { return program(1, 1, test(0, v, left, 1), end()) }
	values := []float64{0, minus0, 1, endless, -endless, math.Float64frombits(0x7ff8000000000001), math.Float64frombits(0x7ff8000000000002), math.Float64frombits(0xfff8000000000001)}
	for i, a := range values {
		for k, b := range values {
			if Same(with(a), with(b)) != (i == k) {
				t.Errorf("19.7: thresholds %x and %x", math.Float64bits(a), math.Float64bits(b))
			}
		}
	}
	for _, a := range [][]api.Op{nil, {}} {
		for _, b := range [][]api.Op{nil, {}} {
			if !Same(api.Program{Ops: a}, api.Program{Ops: b}) {
				t.Error("P1: no operations are not alike")
			}
		}
	}
	if !Same(program(1, 1, api.Op{Kind: 200, Cats: []int{}}), program(1, 1, api.Op{Kind: 200})) || !Same(api.Program{}, api.Program{}) {
		t.Error("P1: no categories are not alike")
	}
}

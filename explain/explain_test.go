package explain

import (
	"fmt"
	"math"
	"math/rand/v2"
	"slices"
	"strconv"
	"strings"
	"testing"

	"thicket/api"
	"thicket/limbs"
	"thicket/trees"
)

const (
	left  = api.SideLeft
	right = api.SideRight
)

var (
	nan     = math.NaN()
	endless = math.Inf(1)
	minus0  = math.Copysign(0, -1)
)

func source() *rand.Rand { return rand.New(rand.NewPCG(25, 25)) }

func leafOf(v int64) api.Node { return api.Node{Kind: api.NodeLeaf, Value: v} }

func leaf(v int64) api.Tree { return api.Tree{Nodes: []api.Node{leafOf(v)}} }

// stump asks for a feature whether a number is at most v.
func stump(feature int, v float64, l, r int64) api.Tree {
	return api.Tree{Nodes: []api.Node{{Kind: api.NodeNumber, Feature: feature, Threshold: v, Missing: left, Left: 1, Right: 2}, leafOf(l), leafOf(r)}}
}

// sorts asks for a feature whether a number is one of the categories.
func sorts(feature int, missing api.Side, l, r int64, cats ...int) api.Tree {
	return api.Tree{Nodes: []api.Node{{Kind: api.NodeCats, Feature: feature, Cats: cats, Missing: missing, Left: 1, Right: 2}, leafOf(l), leafOf(r)}}
}

// of is a tree for another output.
func of(output int, g api.Tree) api.Tree {
	g.Output = output
	return g
}

// ensemble has the features a, b, c, .., as many as are asked for.
func ensemble(features, outputs int, l ...api.Tree) api.Ensemble {
	e := api.Ensemble{Name: "m", Outputs: outputs, Base: make([]int64, outputs), Trees: l}
	for i := range features {
		name := string(rune('a' + i%26))
		if i >= 26 {
			name += strconv.Itoa(i)
		}
		e.Features = append(e.Features, name)
	}
	return e
}

func base(e api.Ensemble, l ...int64) api.Ensemble {
	e.Base = l
	return e
}

func at(l ...float64) []float64 { return l }

func all(l ...[]float64) [][]float64 { return l }

// example is the chapter's.
func example() api.Ensemble {
	second := api.Tree{Nodes: []api.Node{{Kind: api.NodeNumber, Feature: 1, Missing: left, Left: 1, Right: 2}, leafOf(0), {Kind: api.NodeNumber, Threshold: 1, Missing: left, Left: 3, Right: 4}, leafOf(3), leafOf(9)}}
	return ensemble(2, 1, stump(0, 0, 0, 6), second)
}

// isRightRatio tells whether a ratio is in lowest terms, as limbs has it.
func isRightRatio(r api.Ratio) bool {
	same, why := limbs.Over(r.Neg, r.Num, r.Den)
	return why == api.OK && same.Neg == r.Neg && slices.Equal(same.Num, r.Num) && slices.Equal(same.Den, r.Den)
}

// said are ratios as a text, with a mark at one that is not right.
func said(l ...api.Ratio) string {
	var out []string
	for _, r := range l {
		s, _ := limbs.Write(r)
		if !isRightRatio(r) {
			s += "?"
		}
		out = append(out, s)
	}
	return strings.Join(out, " ")
}

func isNothing(l ...api.Ratio) bool {
	return !slices.ContainsFunc(l, func(r api.Ratio) bool { return r.Neg || len(r.Num) > 0 || len(r.Den) > 0 })
}

func isPlayers(t *testing.T, what string, e api.Ensemble, want ...int) {
	t.Helper()
	if l, why := Players(e); why != api.OK || !slices.Equal(l, want) {
		t.Errorf("25.1: %s: %v, %d, not %v", what, l, why, want)
	}
}

func isValue(t *testing.T, what string, e api.Ensemble, output int, x []float64, back [][]float64, set []int, want string) {
	t.Helper()
	if v, why := Value(e, output, x, back, set); why != api.OK || said(v) != want {
		t.Errorf("25.2: %s: of %v: %s, %d, not %s", what, set, said(v), why, want)
	}
}

func noValue(t *testing.T, what string, e api.Ensemble, output int, x []float64, back [][]float64, set []int, want api.Errno) {
	t.Helper()
	v, why := Value(e, output, x, back, set)
	if why != want {
		t.Errorf("25.2: %s: of %v: %d, not %d", what, set, why, want)
	}
	if !isNothing(v) {
		t.Errorf("P2: Value: %s: %v beside an error", what, v)
	}
}

func isShapley(t *testing.T, what string, e api.Ensemble, output int, x []float64, back [][]float64, want string) {
	t.Helper()
	if l, why := Shapley(e, output, x, back); why != api.OK || said(l...) != want {
		t.Errorf("25.3: %s: %s, %d, not %s", what, said(l...), why, want)
	}
}

func noShapley(t *testing.T, what string, e api.Ensemble, output int, x []float64, back [][]float64, want api.Errno) {
	t.Helper()
	l, why := Shapley(e, output, x, back)
	if why != want {
		t.Errorf("25.3: %s: %d, not %d", what, why, want)
	}
	if l != nil {
		t.Errorf("P2: Shapley: %s: %v beside an error", what, l)
	}
}

func isSteps(t *testing.T, what string, e api.Ensemble, output int, x []float64, first, want string) {
	t.Helper()
	if r, l, why := Steps(e, output, x); why != api.OK || said(r) != first || said(l...) != want {
		t.Errorf("25.4: %s: %s and %s, %d, not %s and %s", what, said(r), said(l...), why, first, want)
	}
}

func noSteps(t *testing.T, what string, e api.Ensemble, output int, x []float64, want api.Errno) {
	t.Helper()
	r, l, why := Steps(e, output, x)
	if why != want {
		t.Errorf("25.4: %s: %d, not %d", what, why, want)
	}
	if !isNothing(r) || l != nil {
		t.Errorf("P2: Steps: %s: %v, %v beside an error", what, r, l)
	}
}

func isReasons(t *testing.T, what string, e api.Ensemble, x []float64, want ...string) {
	t.Helper()
	if l, why := Reasons(e, x); why != api.OK || !slices.Equal(l, want) {
		t.Errorf("25.5: %s: %q, %d, not %q", what, l, why, want)
	}
}

func noReasons(t *testing.T, what string, e api.Ensemble, x []float64, want api.Errno) {
	t.Helper()
	l, why := Reasons(e, x)
	if why != want {
		t.Errorf("25.5: %s: %d, not %d", what, why, want)
	}
	if l != nil {
		t.Errorf("P2: Reasons: %s: %q beside an error", what, l)
	}
}

func TestExamples(t *testing.T) {
	e, x := example(), at(2, 1)
	isPlayers(t, "example 1", e, 0, 1)
	isValue(t, "example 1", e, 0, x, all(at(0, 0)), nil, "0")
	isValue(t, "example 1", e, 0, x, all(at(0, 0)), []int{0}, "6")
	isValue(t, "example 1", e, 0, x, all(at(0, 0)), []int{1}, "3")
	isValue(t, "example 1", e, 0, x, all(at(0, 0)), []int{0, 1}, "15")
	isShapley(t, "example 2", e, 0, x, all(at(0, 0)), "9 6")
	isShapley(t, "example 2", e, 0, x, all(at(0, 0), x), "9/2 3")
	isSteps(t, "example 3", e, 0, x, "7", "6 2")
	isReasons(t, "example 4", e, at(2, nan), "a > 0 : output 0 +0.000006", "b is missing : output 0 +0")
	isReasons(t, "example 4", ensemble(1, 1, leaf(-1)), at(0), ": output 0 -0.000001")

	whole := base(ensemble(2, 1, stump(0, 0.5, 1000000, -2250000)), 500000) // the document's T
	isShapley(t, "example 9 of the whole", whole, 0, at(1, 0), all(at(0, 0)), "-3250000 0")
}

// wrongEnsembles break a rule each.
func wrongEnsembles() map[string]api.Ensemble {
	all := map[string]api.Ensemble{"nothing": {}}
	for what, spoil := range map[string]func(e *api.Ensemble){
		"a name":       func(e *api.Ensemble) { e.Name = "" },
		"no features":  func(e *api.Ensemble) { e.Features = nil },
		"a name twice": func(e *api.Ensemble) { e.Features = []string{"a", "a"} },
		"outputs":      func(e *api.Ensemble) { e.Outputs = 0 },
		"Base":         func(e *api.Ensemble) { e.Base = nil },
		"an output":    func(e *api.Ensemble) { e.Trees[0].Output = 1 },
		"no nodes":     func(e *api.Ensemble) { e.Trees[0].Nodes = nil },
		"a feature":    func(e *api.Ensemble) { e.Trees[0].Nodes[0].Feature = 2 },
		"a threshold":  func(e *api.Ensemble) { e.Trees[0].Nodes[0].Threshold = nan },
		"no tree":      func(e *api.Ensemble) { e.Trees[0].Nodes[0].Right = 1 },
		"a circle":     func(e *api.Ensemble) { e.Trees[1].Nodes[2].Right = 2 },
		"the room":     func(e *api.Ensemble) { e.Base[0] = api.MaxSum },
		"great leaves": func(e *api.Ensemble) { e.Trees[0] = stump(0, 1, math.MinInt64, math.MaxInt64) },
		"trees":        func(e *api.Ensemble) { e.Trees = slices.Repeat([]api.Tree{leaf(0)}, api.MaxTrees+1) },
	} {
		e := example()
		spoil(&e)
		all[what] = e
	}
	return all
}

// Whatever else is wrong: a rule that is broken comes first.
func TestWrongEnsembles(t *testing.T) {
	for what, e := range wrongEnsembles() {
		if l, why := Players(e); why != api.ErrModel || l != nil {
			t.Errorf("25.1: %s: %v, %d", what, l, why)
		}
		for _, x := range all(nil, at(1), at(1, 2)) {
			noReasons(t, what, e, x, api.ErrModel)
			for _, output := range []int{0, -1, 7} {
				noSteps(t, what, e, output, x, api.ErrModel)
				for _, back := range [][][]float64{nil, {nil}, {at(1, 2)}, make([][]float64, api.MaxBack+1)} {
					noValue(t, what, e, output, x, back, []int{0}, api.ErrModel)
					noValue(t, what, e, output, x, back, []int{-1}, api.ErrModel)
					noShapley(t, what, e, output, x, back, api.ErrModel)
				}
			}
		}
	}
}

// Each error, with all those that come behind it.
func TestFirstThatApplies(t *testing.T) {
	e := many(api.MaxPlayers + 1)
	right, short, long := make([]float64, api.MaxPlayers+1), make([]float64, api.MaxPlayers), make([]float64, api.MaxPlayers+2)
	tooMany := slices.Repeat(all(right), api.MaxBack+1)
	tooMany[5] = short
	for _, c := range []struct {
		what   string
		output int
		x      []float64
		back   [][]float64
		want   api.Errno
	}{
		{"an output below", -1, short, nil, api.ErrRange},
		{"an output above", 1, long, tooMany, api.ErrRange},
		{"far below", math.MinInt, right, all(short), api.ErrRange},
		{"far above", math.MaxInt, right, all(right), api.ErrRange},
		{"a short vector", 0, short, nil, api.ErrVector},
		{"a short vector", 0, short, tooMany, api.ErrVector},
		{"a long vector", 0, long, nil, api.ErrVector},
		{"no vector", 0, nil, all(nil), api.ErrVector},
		{"no background", 0, right, nil, api.ErrSize},
		{"an empty background", 0, right, [][]float64{}, api.ErrSize},
		{"one too many", 0, right, tooMany, api.ErrMany},
		{"a short one", 0, right, all(short), api.ErrVector},
		{"a long one", 0, right, all(long), api.ErrVector},
		{"one that is nothing", 0, right, all(right, nil), api.ErrVector},
		{"a short one behind", 0, right, append(slices.Repeat(all(right), api.MaxBack-1), short), api.ErrVector},
		{"a long one ahead", 0, right, all(long, right, right), api.ErrVector},
	} {
		noValue(t, c.what, e, c.output, c.x, c.back, []int{-1, len(right)}, c.want)
		noValue(t, c.what, e, c.output, c.x, c.back, nil, c.want)
		noShapley(t, c.what, e, c.output, c.x, c.back, c.want)
		if c.want == api.ErrRange || c.what == "a short vector" || c.what == "a long vector" || c.what == "no vector" {
			noSteps(t, c.what, e, c.output, c.x, c.want)
		}
	}
	for _, set := range [][]int{{-1}, {len(right)}, {0, 1, -1}, {len(right), 0}, {math.MinInt}, {math.MaxInt}} {
		noValue(t, "a set", e, 0, right, all(right), set, api.ErrRange)
	}
	noShapley(t, "too many players", e, 0, right, all(right), api.ErrMany)
	for _, x := range all(nil, short, long) {
		noReasons(t, "a vector", e, x, api.ErrVector)
	}
}

// many is an ensemble in which so many features are asked, one by one: the n-th, from 0 on, gives 2^n where its number is above 0.
func many(players int) api.Ensemble {
	e := ensemble(players, 1)
	for i := range players {
		e.Trees = append(e.Trees, stump(i, 0, 0, 1<<i))
	}
	return e
}

func TestPlayers(t *testing.T) {
	isPlayers(t, "no trees", ensemble(3, 1))
	isPlayers(t, "trees of one leaf", ensemble(3, 1, leaf(1), leaf(2)))
	isPlayers(t, "one", ensemble(3, 1, stump(1, 0, 1, 1), stump(1, 2, 1, 4)), 1)
	isPlayers(t, "rising", ensemble(5, 1, stump(4, 0, 0, 1), sorts(0, left, 0, 1, 7), stump(2, 0, 0, 1), stump(4, 1, 0, 1)), 0, 2, 4)
	isPlayers(t, "of any output", ensemble(3, 2, of(1, stump(2, 0, 0, 1)), stump(0, 0, 0, 1)), 0, 2)
	// Asked below, at nodes that no vector comes to, and where all leaves say the same.
	deep := api.Tree{Nodes: []api.Node{
		{Kind: api.NodeNumber, Feature: 3, Threshold: endless, Missing: left, Left: 1, Right: 2}, leafOf(4),
		{Kind: api.NodeCats, Feature: 1, Cats: []int{0}, Missing: right, Left: 3, Right: 4}, leafOf(4), leafOf(4),
	}}
	isPlayers(t, "all inner nodes", ensemble(4, 1, deep), 1, 3)
	wide := ensemble(1, 1, stump(api.MaxFeatures-1, 0, 0, 1))
	wide.Features = nil
	for i := range api.MaxFeatures {
		wide.Features = append(wide.Features, "f"+strconv.Itoa(i))
	}
	isPlayers(t, "MaxFeatures", wide, api.MaxFeatures-1)
	// A leaf's Feature, which is 0, is none that is asked.
	isPlayers(t, "a leaf's Feature", ensemble(2, 1, leaf(3), stump(1, 0, 0, 1)), 1)
}

func TestValue(t *testing.T) {
	e, x := example(), at(2, 1)
	back := all(at(0, 0), at(2, 0), at(0, 1)) // scores 0, 6, 3
	isValue(t, "the average of the background", e, 0, x, back, nil, "3")
	isValue(t, "x itself", e, 0, x, back, []int{0, 1}, "15")
	isValue(t, "any order", e, 0, x, back, []int{1, 0}, "15")
	isValue(t, "a number twice", e, 0, x, back, []int{1, 0, 1, 1}, "15")
	isValue(t, "one", e, 0, x, back, []int{0}, "9")
	isValue(t, "the other", e, 0, x, back, []int{1}, "7") // 3, 15, 3
	isValue(t, "the other, twice", e, 0, x, back, []int{1, 1}, "7")
	isValue(t, "a quotient", e, 0, x, all(at(0, 0), at(2, 0), at(2, 0), at(0, 1)), nil, "15/4")
	isValue(t, "an empty set", e, 0, x, back, []int{}, "3")

	isValue(t, "no trees", base(ensemble(2, 2), 7, -8), 1, x, back, []int{0}, "-8")
	isValue(t, "trees of one leaf", base(ensemble(2, 1, leaf(4), leaf(-9)), 1), 0, x, back, nil, "-4")
	several := base(ensemble(2, 3, of(2, stump(0, 1, -5, 7)), stump(0, 1, 1, 2), of(2, stump(1, 0, -1, 0)), of(1, leaf(9))), 10, 20, 30)
	isValue(t, "the first output", several, 0, at(0, 0), all(at(2, 1)), nil, "12")
	isValue(t, "the second output", several, 1, at(0, 0), all(at(2, 1)), nil, "29")
	isValue(t, "the last output", several, 2, at(0, 0), all(at(2, 1)), nil, "37")
	isValue(t, "the last output", several, 2, at(0, 0), all(at(2, 1)), []int{0}, "25")
	isValue(t, "the last output", several, 2, at(0, 0), all(at(2, 1)), []int{1}, "36")
	noValue(t, "one more output", several, 3, at(0, 0), all(at(2, 1)), nil, api.ErrRange)
	noValue(t, "one fewer", several, -1, at(0, 0), all(at(2, 1)), nil, api.ErrRange)

	odd := ensemble(2, 1, stump(0, 1, 5, 11), sorts(1, right, 100, 200, 0, 3))
	isValue(t, "NaN and infinities", odd, 0, at(nan, endless), all(at(endless, nan)), nil, "211")
	isValue(t, "NaN and infinities", odd, 0, at(nan, endless), all(at(endless, nan)), []int{0}, "205")
	isValue(t, "NaN and infinities", odd, 0, at(nan, minus0), all(at(-endless, nan)), []int{1}, "105")
	isValue(t, "below nought", ensemble(2, 1, stump(0, 0, -1, 0)), 0, x, all(at(0, 0), at(1, 0), at(1, 0)), nil, "-1/3")

	isValue(t, "MaxBack", e, 0, x, append(slices.Repeat(all(at(0, 0)), api.MaxBack-1), at(0, 1)), nil, "3/64")
	noValue(t, "one more", e, 0, x, slices.Repeat(all(at(0, 0)), api.MaxBack+1), nil, api.ErrMany)
	noValue(t, "a set with -1", e, 0, x, back, []int{0, -1}, api.ErrRange)
	noValue(t, "a set with the number of features", e, 0, x, back, []int{2, 0}, api.ErrRange)

	// 64 scores, each nearly 2^62, are more than an int64 says.
	const most = api.MaxSum - 1
	for _, sign := range []int64{1, -1} {
		great := ensemble(2, 1, stump(0, 0, sign*most, sign*(most-1)))
		minus := strings.TrimSuffix("-", strings.Repeat("-", int(1+sign)/2))
		full := slices.Repeat(all(at(0, 0)), api.MaxBack)
		isValue(t, "beyond an int64", great, 0, x, full, nil, minus+"4611686018427387903")
		full[9] = at(1, 0)
		isValue(t, "beyond an int64", great, 0, x, full, nil, minus+"295147905179352825791/64")
		isValue(t, "beyond an int64", great, 0, x, full, []int{0}, minus+"4611686018427387902")
	}
}

func TestShapley(t *testing.T) {
	e, x := example(), at(2, 1)
	isShapley(t, "one vector of the background", e, 0, x, all(at(2, 0)), "0 9")
	isShapley(t, "a background of x alone", e, 0, x, all(x), "0 0")
	isShapley(t, "a background of x, many times", e, 0, at(nan, -endless), slices.Repeat(all(at(nan, -endless)), api.MaxBack), "0 0")
	isShapley(t, "three", e, 0, x, all(at(0, 0), at(0, 0), x), "6 4")
	isShapley(t, "below nought", e, 0, at(0, 0), all(x), "-9 -6")
	isShapley(t, "MaxBack", e, 0, x, append(slices.Repeat(all(x), api.MaxBack-1), at(0, 0)), "9/64 3/32")
	noShapley(t, "one more", e, 0, x, slices.Repeat(all(x), api.MaxBack+1), api.ErrMany)
	isShapley(t, "no trees", ensemble(3, 1), 0, at(1, 2, 3), all(at(4, 5, 6)), "0 0 0")
	isShapley(t, "trees of one leaf", base(ensemble(2, 1, leaf(5)), 9), 0, x, all(at(0, 0)), "0 0")
	isShapley(t, "one player", ensemble(3, 1, stump(1, 0, 1, 8)), 0, at(1, 1, 1), all(at(0, 0, 0)), "0 7 0")
	several := ensemble(3, 3, stump(0, 0, 0, 5), of(2, stump(2, 0, 0, 7)), of(2, stump(0, 0, 1, 0)))
	isShapley(t, "the first output", several, 0, at(1, 1, 1), all(at(0, 0, 0)), "5 0 0")
	isShapley(t, "the second output", several, 1, at(1, 1, 1), all(at(0, 0, 0)), "0 0 0")
	isShapley(t, "the last output", several, 2, at(1, 1, 1), all(at(0, 0, 0)), "-1 0 7")
	noShapley(t, "one more output", several, 3, at(1, 1, 1), all(at(0, 0, 0)), api.ErrRange)

	full := many(api.MaxPlayers)
	ones := slices.Repeat(at(1), api.MaxPlayers)
	isShapley(t, "MaxPlayers", full, 0, ones, all(make([]float64, api.MaxPlayers)), "1 2 4 8 16 32 64 128 256 512")
	more := many(api.MaxPlayers + 1)
	noShapley(t, "one more", more, 0, append(ones, 1), all(make([]float64, api.MaxPlayers+1)), api.ErrMany)
	// Players of other outputs count for the limit.
	more.Outputs, more.Base = 2, []int64{0, 0}
	more.Trees[3].Output = 1
	noShapley(t, "players of all outputs", more, 1, append(ones, 1), all(make([]float64, api.MaxPlayers+1)), api.ErrMany)
	// More features than that, of which no more are asked.
	full = many(api.MaxPlayers)
	full.Features = append(full.Features, "y", "z")
	isShapley(t, "features that no node has", full, 0, append(slices.Clone(ones), 1, 2), all(make([]float64, api.MaxPlayers+2)), "1 2 4 8 16 32 64 128 256 512 0 0")
}

// all players have to be there: each has the same part.
func TestAllTogether(t *testing.T) {
	for players := 1; players <= api.MaxPlayers; players++ {
		var g api.Tree
		for i := range players {
			g.Nodes = append(g.Nodes, api.Node{Kind: api.NodeNumber, Feature: i, Missing: left, Left: 2*i + 1, Right: 2*i + 2}, leafOf(0))
		}
		g.Nodes = append(g.Nodes, leafOf(1))
		ones := slices.Repeat(at(1), players)
		e := ensemble(players, 1, g)
		want := "1"
		if players > 1 {
			want = "1/" + strconv.Itoa(players)
		}
		isShapley(t, "all together", e, 0, ones, all(make([]float64, players)), strings.TrimSpace(strings.Repeat(want+" ", players)))
		isShapley(t, "all together, the other way", e, 0, make([]float64, players), all(ones), strings.TrimSpace(strings.Repeat("-"+want+" ", players)))
	}
}

// Shares of the greatest leaves are more than an int64 says on the way.
func TestGreatShares(t *testing.T) {
	const most = api.MaxSum - 1
	pair := api.Tree{Nodes: []api.Node{
		{Kind: api.NodeNumber, Missing: left, Left: 1, Right: 2}, {Kind: api.NodeNumber, Feature: 1, Missing: left, Left: 3, Right: 4}, {Kind: api.NodeNumber, Feature: 1, Missing: left, Left: 5, Right: 6},
		leafOf(-most), leafOf(most), leafOf(most), leafOf(-most),
	}}
	isShapley(t, "great leaves", ensemble(2, 1, pair), 0, at(1, 1), all(at(0, 0)), "0 0")
	isShapley(t, "great leaves", ensemble(2, 1, pair), 0, at(1, 0), all(at(0, 0)), "9223372036854775806 0")
	isShapley(t, "great leaves", ensemble(2, 1, pair), 0, at(0, 0), all(at(0, 1)), "0 -9223372036854775806")
	back := slices.Repeat(all(at(0, 0)), api.MaxBack-1)
	isShapley(t, "great leaves, a background", ensemble(2, 1, pair), 0, at(1, 0), append(back, at(1, 0)), "290536219160925437889/32 0")
	// As many players as may be, all asked on the way to one great leaf.
	isSame := func(v int64) {
		var g api.Tree
		for i := range api.MaxPlayers {
			g.Nodes = append(g.Nodes, api.Node{Kind: api.NodeNumber, Feature: i, Missing: left, Left: 2*i + 1, Right: 2*i + 2}, leafOf(0))
		}
		g.Nodes = append(g.Nodes, leafOf(v))
		tenth, _ := limbs.By(limbs.Whole(v), limbs.Whole(api.MaxPlayers))
		want := strings.TrimSpace(strings.Repeat(said(tenth)+" ", api.MaxPlayers))
		isShapley(t, "a great leaf of all", ensemble(api.MaxPlayers, 1, g), 0, slices.Repeat(at(1), api.MaxPlayers), slices.Repeat(all(make([]float64, api.MaxPlayers)), api.MaxBack), want)
	}
	isSame(most)
	isSame(-most)
}

func TestSteps(t *testing.T) {
	e := example()
	isSteps(t, "left", e, 0, at(0, 0), "7", "-3 -4")
	isSteps(t, "in the middle", e, 0, at(1, 5), "7", "0 2") // 3 of the first tree, 3 - 6 of the second
	isSteps(t, "NaN", e, 0, at(nan, nan), "7", "-3 -4")
	isSteps(t, "infinities", e, 0, at(endless, endless), "7", "6 2")
	isSteps(t, "no trees", base(ensemble(2, 2), 5, -6), 1, at(1, 1), "-6", "0 0")
	isSteps(t, "trees of one leaf", base(ensemble(2, 1, leaf(5), leaf(-20)), 9), 0, at(1, 1), "-6", "0 0")
	isSteps(t, "thirds", ensemble(3, 1, e.Trees[1], stump(2, 0, 0, 1)), 0, at(0, 0, 0), "9/2", "0 -4 -1/2")
	three := api.Tree{Nodes: []api.Node{{Kind: api.NodeCats, Feature: 1, Cats: []int{2}, Missing: right, Left: 3, Right: 4}, leafOf(1), leafOf(0), leafOf(0), {Kind: api.NodeNumber, Missing: right, Left: 2, Right: 1}}}
	isSteps(t, "thirds", ensemble(3, 1, three), 0, at(0, 2, 0), "1/3", "0 -1/3 0")
	isSteps(t, "thirds", ensemble(3, 1, three), 0, at(0, nan, 0), "1/3", "-1/2 1/6 0")
	isSteps(t, "thirds", ensemble(3, 1, three), 0, at(nan, 0, 0), "1/3", "1/2 1/6 0")

	several := base(ensemble(2, 3, of(2, stump(0, 0, 0, 5)), stump(1, 0, 0, 3), of(2, stump(1, 0, 0, 8)), of(2, leaf(1))), 10, 20, 30)
	isSteps(t, "the first output", several, 0, at(1, 1), "23/2", "0 3/2")
	isSteps(t, "the second output", several, 1, at(1, 1), "20", "0 0")
	isSteps(t, "the last output", several, 2, at(1, 0), "75/2", "5/2 -4")
	noSteps(t, "one more output", several, 3, at(1, 1), api.ErrRange)
	noSteps(t, "one fewer", several, -1, at(1, 1), api.ErrRange)
	noSteps(t, "one number more", several, 0, at(1, 1, 1), api.ErrVector)
	noSteps(t, "one number fewer", several, 0, at(1), api.ErrVector)

	const most = api.MaxSum - 1
	// Leaves whose sum is beyond an int64, of either sign.
	for _, sign := range []int64{1, -1} {
		g := chain(8, func(int) int64 { return sign * most })
		value := strconv.FormatInt(sign*most, 10)
		isSteps(t, "great leaves", ensemble(2, 1, g), 0, at(100, 0), value, "0 0")
		g.Nodes[len(g.Nodes)-1].Value = -sign * most // 8 leaves of one sign, one of the other: 7/9 of the first
		first, _ := limbs.Times(limbs.Whole(sign*most), sure(limbs.Over(false, limbs.From(7), limbs.From(9))))
		share, _ := limbs.Minus(limbs.Whole(-sign*most), first)
		isSteps(t, "great leaves", ensemble(2, 1, g), 0, at(100, 0), said(first), said(share)+" 0")
	}
}

func sure(r api.Ratio, why api.Errno) api.Ratio {
	if why != api.OK {
		panic(why)
	}
	return r
}

// chain is a tree that asks feature 0 for 0, 1, 2, .., so often; on the left of each node stands a leaf.
func chain(deep int, value func(i int) int64) api.Tree {
	var g api.Tree
	for i := range deep {
		g.Nodes = append(g.Nodes, api.Node{Kind: api.NodeNumber, Threshold: float64(i), Missing: right, Left: 2*i + 1, Right: 2*i + 2}, leafOf(value(i)))
	}
	g.Nodes = append(g.Nodes, leafOf(value(deep)))
	return g
}

// As deep as a tree can be, a feature that comes again at each node, and a share that is what its steps leave.
func TestDeepSteps(t *testing.T) {
	const deep = api.MaxLeaves - 1
	odd := func(i int) int64 { return int64(i*i*7919%104729 - 50000) }
	e := base(ensemble(2, 1, chain(deep, odd), chain(deep, func(i int) int64 { return 3 * odd(i) })), 77)
	sum := int64(0)
	for i := range deep + 1 {
		sum += 4 * odd(i)
	}
	first := sure(limbs.Plus(limbs.Whole(77), sure(limbs.By(limbs.Whole(sum), limbs.Whole(deep+1)))))
	for _, v := range []float64{-1, 0, 1, 2047.5, deep - 1, deep, endless, nan} {
		score, _ := trees.Score(e, at(v, 5))
		share := sure(limbs.Minus(limbs.Whole(score[0]), first))
		isSteps(t, fmt.Sprint("deep, at ", v), e, 0, at(v, 5), said(first), said(share)+" 0")
	}
	// Two features in turn: their shares add up all the same.
	for i := range deep {
		e.Trees[1].Nodes[2*i].Feature = i % 2
	}
	r, l, why := Steps(e, 0, at(endless, endless))
	score, _ := trees.Score(e, at(endless, endless))
	if whole := sure(limbs.Plus(sure(limbs.Plus(l[0], l[1])), r)); why != api.OK || said(whole) != strconv.FormatInt(score[0], 10) || len(l[1].Den) < 100 {
		t.Error("25.11: two features in turn:", said(whole), score, why)
	}
	if _, why := Shapley(e, 0, at(endless, endless), all(at(-1, -1), at(2047, 1))); why != api.OK {
		t.Error("25.3: deep:", why)
	}
	if l, why := Reasons(e, at(endless, endless)); why != api.OK || strings.Count(l[1], " and ") != deep-1 || !strings.HasSuffix(l[0], " and a > 4094 : output 0 +0.000471") {
		t.Error("25.5: deep:", l[0][len(l[0])-60:], why)
	}
}

// Many trees with leaves in all numbers.
func TestManySteps(t *testing.T) {
	e := ensemble(2, 1)
	r := source()
	for i := range 3000 {
		g := chain(1+i%40, func(int) int64 { return r.Int64N(2000) - 1000 })
		for j := range g.Nodes {
			if g.Nodes[j].Kind != api.NodeLeaf {
				g.Nodes[j].Feature = r.IntN(2)
			}
		}
		e.Trees = append(e.Trees, g)
	}
	x := at(17, 23)
	first, l, why := Steps(e, 0, x)
	score, _ := trees.Score(e, x)
	if sum := sure(limbs.Plus(first, sure(limbs.Plus(l[0], l[1])))); why != api.OK || said(sum) != strconv.FormatInt(score[0], 10) {
		t.Error("25.11: many trees:", said(sum), score, why)
	}
}

func TestReasons(t *testing.T) {
	isReasons(t, "no trees", ensemble(1, 1), at(1))
	isReasons(t, "trees of one leaf", ensemble(1, 2, leaf(0), of(1, leaf(1)), leaf(1000000), leaf(-1500000)), at(1), ": output 0 +0", ": output 1 +0.000001", ": output 0 +1", ": output 0 -1.5")
	for v, want := range map[float64]string{0.5: "0.5", 0: "0", minus0: "0", endless: "inf", -endless: "-inf", 1e21: "1e+21", 0.1: "0.1", -2.75: "-2.75", 1e-7: "1e-7", 5e-324: "5e-324", 16777216: "16777216"} {
		if v == 0 {
			continue // a map takes both noughts for one
		}
		e := ensemble(1, 1, stump(0, v, 1, 2))
		isReasons(t, "a threshold, at", e, at(v), "a <= "+want+" : output 0 +0.000001")
		isReasons(t, "a threshold, below", e, at(-endless), "a <= "+want+" : output 0 +0.000001")
		if v != endless {
			isReasons(t, "a threshold, above", e, at(endless), "a > "+want+" : output 0 +0.000002")
		}
		isReasons(t, "a threshold, NaN", e, at(nan), "a is missing : output 0 +0.000001")
	}
	for _, v := range at(0, minus0) {
		isReasons(t, "a threshold of 0", ensemble(1, 1, stump(0, 0, 1, 2)), at(v), "a <= 0 : output 0 +0.000001")
		isReasons(t, "a threshold of -0", ensemble(1, 1, stump(0, minus0, 1, 2)), at(v), "a <= -0 : output 0 +0.000001")
	}
	isReasons(t, "above a threshold of -0", ensemble(1, 1, stump(0, minus0, 1, 2)), at(5e-324), "a > -0 : output 0 +0.000002")

	one, several := ensemble(2, 1, sorts(1, left, -1, -2, 7)), ensemble(2, 1, sorts(1, right, -1, -2, 0, 3, 1023))
	isReasons(t, "one category, in", one, at(0, 7), "b in 7 : output 0 -0.000001")
	isReasons(t, "one category, not in", one, at(0, 7.5), "b not in 7 : output 0 -0.000002")
	isReasons(t, "one category, NaN", one, at(7, nan), "b is missing : output 0 -0.000001")
	isReasons(t, "several, in", several, at(0, 1023), "b in 0,3,1023 : output 0 -0.000001")
	isReasons(t, "several, in", several, at(9, minus0), "b in 0,3,1023 : output 0 -0.000001")
	isReasons(t, "several, not in", several, at(0, -3), "b not in 0,3,1023 : output 0 -0.000002")
	isReasons(t, "several, not in", several, at(0, endless), "b not in 0,3,1023 : output 0 -0.000002")
	isReasons(t, "several, NaN", several, at(0, nan), "b is missing : output 0 -0.000002")

	for v, want := range map[int64]string{0: "+0", 1: "+0.000001", -1: "-0.000001", 1000000: "+1", -1000000: "-1", 2500000: "+2.5", -250000: "-0.25", 12345678: "+12.345678", api.MaxSum - 1: "+4611686018427.387903", 1 - api.MaxSum: "-4611686018427.387903"} {
		isReasons(t, "a value", ensemble(1, 1, leaf(v)), at(0), ": output 0 "+want)
	}

	// A feature that comes again, and names as they are.
	g := api.Tree{Output: 63, Nodes: []api.Node{
		{Kind: api.NodeNumber, Feature: 1, Threshold: 5, Missing: right, Left: 2, Right: 1}, leafOf(8),
		{Kind: api.NodeCats, Cats: []int{1, 2}, Missing: left, Left: 3, Right: 4}, leafOf(6),
		{Kind: api.NodeNumber, Feature: 1, Threshold: 2, Missing: right, Left: 5, Right: 6}, leafOf(-40), leafOf(0),
	}}
	e := ensemble(2, api.MaxOutputs, g, of(1, stump(0, 3, 1, 2)))
	e.Features = []string{"x-1.y_Z", strings.Repeat("n", api.MaxName)}
	long := e.Features[1]
	isReasons(t, "again", e, at(0, 2), long+" <= 5 and x-1.y_Z not in 1,2 and "+long+" <= 2 : output 63 -0.00004", "x-1.y_Z <= 3 : output 1 +0.000001")
	isReasons(t, "again", e, at(3.5, 3), long+" <= 5 and x-1.y_Z not in 1,2 and "+long+" > 2 : output 63 +0", "x-1.y_Z > 3 : output 1 +0.000002")
	isReasons(t, "missing", e, at(nan, 3), long+" <= 5 and x-1.y_Z is missing : output 63 +0.000006", "x-1.y_Z is missing : output 1 +0.000001")
	isReasons(t, "missing at the root", e, at(1, nan), long+" is missing : output 63 +0.000008", "x-1.y_Z <= 3 : output 1 +0.000001")
	noReasons(t, "one number more", e, at(1, 2, 3), api.ErrVector)
	noReasons(t, "one number fewer", e, at(1), api.ErrVector)

	var cats []int
	var digits []string
	for c := range api.MaxCats {
		cats, digits = append(cats, c), append(digits, strconv.Itoa(c))
	}
	isReasons(t, "MaxCats", ensemble(1, 1, sorts(0, left, 1, 2, cats...)), at(512), "a in "+strings.Join(digits, ",")+" : output 0 +0.000001")
	full := ensemble(1, 1, slices.Repeat([]api.Tree{stump(0, 1, 1, 2)}, api.MaxTrees)...)
	isReasons(t, "MaxTrees", full, at(2), slices.Repeat([]string{"a > 1 : output 0 +0.000002"}, api.MaxTrees)...)
}

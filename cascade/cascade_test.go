package cascade

import (
	"fmt"
	"math"
	"math/rand/v2"
	"reflect"
	"slices"
	"testing"

	"thicket/api"
	"thicket/trees"
)

const (
	left  = api.SideLeft
	right = api.SideRight
)

var (
	nan     = math.NaN()
	endless = math.Inf(1)
	minus0  = math.Copysign(0, -1)
)

func source() *rand.Rand { return rand.New(rand.NewPCG(24, 24)) }

func leafOf(v int64) api.Node { return api.Node{Kind: api.NodeLeaf, Value: v} }

func leaf(v int64) api.Tree { return api.Tree{Nodes: []api.Node{leafOf(v)}} }

// stump asks for feature 0 whether a number is at most v.
func stump(v float64, l, r int64) api.Tree {
	return api.Tree{Nodes: []api.Node{{Kind: api.NodeNumber, Threshold: v, Missing: left, Left: 1, Right: 2}, leafOf(l), leafOf(r)}}
}

// of is a tree for another output.
func of(output int, g api.Tree) api.Tree {
	g.Output = output
	return g
}

func ensemble(outputs int, l ...api.Tree) api.Ensemble {
	return api.Ensemble{Name: "m", Features: []string{"a"}, Outputs: outputs, Base: make([]int64, outputs), Trees: l}
}

func base(e api.Ensemble, l ...int64) api.Ensemble {
	e.Base = l
	return e
}

func at(l ...float64) []float64 { return l }

func vectors(l ...float64) [][]float64 {
	var all [][]float64
	for _, v := range l {
		all = append(all, at(v))
	}
	return all
}

// example is the chapter's.
func example() api.Ensemble { return ensemble(1, stump(1, 0, 10), stump(2, 0, 3), leaf(1)) }

// isBounds holds spans, given as Low, High, Low, High, ..
func isBounds(t *testing.T, what string, e api.Ensemble, x []float64, n int, want ...int64) {
	t.Helper()
	l, why := Bounds(e, x, n)
	var got []int64
	for _, b := range l {
		got = append(got, b.Low, b.High)
	}
	if why != api.OK || !slices.Equal(got, want) {
		t.Errorf("P24.1: %s: behind %d: %v, %d, not %v", what, n, got, why, want)
	}
}

func noBounds(t *testing.T, what string, e api.Ensemble, x []float64, n int, want api.Errno) {
	t.Helper()
	l, why := Bounds(e, x, n)
	if why != want {
		t.Errorf("P24.1: %s: behind %d: %d, not %d", what, n, why, want)
	}
	if l != nil {
		t.Errorf("P2: Bounds: %s: %v beside an error", what, l)
	}
}

func isAbove(t *testing.T, what string, e api.Ensemble, x []float64, output int, limit int64, want bool, many int) {
	t.Helper()
	if got, n, why := Above(e, x, output, limit); why != api.OK || got != want || n != many {
		t.Errorf("P24.2: %s: above %d: %v, %d, %d, not %v, %d", what, limit, got, n, why, want, many)
	}
}

func noAbove(t *testing.T, what string, e api.Ensemble, x []float64, output int, limit int64, want api.Errno) {
	t.Helper()
	got, n, why := Above(e, x, output, limit)
	if why != want {
		t.Errorf("P24.2: %s: output %d: %d, not %d", what, output, why, want)
	}
	if got || n != 0 {
		t.Errorf("P2: Above: %s: %v, %d beside an error", what, got, n)
	}
}

func isClass(t *testing.T, what string, e api.Ensemble, x []float64, want, many int) {
	t.Helper()
	if o, n, why := Class(e, x); why != api.OK || o != want || n != many {
		t.Errorf("P24.3: %s: %d, %d, %d, not %d, %d", what, o, n, why, want, many)
	}
}

func noClass(t *testing.T, what string, e api.Ensemble, x []float64, want api.Errno) {
	t.Helper()
	o, n, why := Class(e, x)
	if why != want {
		t.Errorf("P24.3: %s: %d, not %d", what, why, want)
	}
	if o != 0 || n != 0 {
		t.Errorf("P2: Class: %s: %d, %d beside an error", what, o, n)
	}
}

func isTop(t *testing.T, what string, e api.Ensemble, l [][]float64, output, k, many int, want ...int) {
	t.Helper()
	if got, n, why := Top(e, l, output, k); why != api.OK || !slices.Equal(got, want) || n != many {
		t.Errorf("P24.4: %s: k = %d: %v, %d asked, %d, not %v, %d", what, k, got, n, why, want, many)
	}
}

func noTop(t *testing.T, what string, e api.Ensemble, l [][]float64, output, k int, want api.Errno) {
	t.Helper()
	got, n, why := Top(e, l, output, k)
	if why != want {
		t.Errorf("P24.4: %s: output %d, k = %d: %d, not %d", what, output, k, why, want)
	}
	if got != nil || n != 0 {
		t.Errorf("P2: Top: %s: %v, %d beside an error", what, got, n)
	}
}

func isPlan(t *testing.T, what string, e api.Ensemble, want ...int) {
	t.Helper()
	if l, why := Plan(e); why != api.OK || !slices.Equal(l, want) {
		t.Errorf("P24.5: Plan: %s: %v, %d, not %v", what, l, why, want)
	}
}

func noOrder(t *testing.T, what string, e api.Ensemble, l []int, want api.Errno) {
	t.Helper()
	got, why := Order(e, l)
	if why != want {
		t.Errorf("P24.5: Order: %s: %d, not %d", what, why, want)
	}
	if !reflect.DeepEqual(got, api.Ensemble{}) {
		t.Errorf("P2: Order: %s: %v beside an error", what, got)
	}
}

func TestExamples(t *testing.T) {
	e := example()
	isBounds(t, "example 1", e, at(5), 0, 1, 14)
	isBounds(t, "example 1", e, at(5), 1, 11, 14)
	isBounds(t, "example 1", e, at(5), 2, 14, 14)
	isBounds(t, "example 1", e, at(5), 3, 14, 14)
	noBounds(t, "example 1", e, at(5), 4, api.ErrRange)

	isAbove(t, "example 2", e, at(5), 0, 10, true, 1)
	isAbove(t, "example 2", e, at(5), 0, 0, true, 0)
	isAbove(t, "example 2", e, at(5), 0, 14, false, 0)
	isAbove(t, "example 2", e, at(1.5), 0, 12, false, 2)
	noAbove(t, "example 2", e, at(5), 1, 0, api.ErrRange)

	isTop(t, "example 3", e, vectors(0, 5, 1.5), 0, 1, 6, 1)

	isPlan(t, "example 4", e, 0, 1, 2)
	isClass(t, "example 4", ensemble(2, leaf(5), of(1, leaf(5))), at(1), 0, 0)
}

// wrongEnsembles break a rule each.
func wrongEnsembles() map[string]api.Ensemble {
	all := map[string]api.Ensemble{"nothing": {}}
	for what, spoil := range map[string]func(e *api.Ensemble){
		"a name":       func(e *api.Ensemble) { e.Name = "" },
		"no features":  func(e *api.Ensemble) { e.Features = nil },
		"a name twice": func(e *api.Ensemble) { e.Features = []string{"a", "a"} },
		"outputs":      func(e *api.Ensemble) { e.Outputs = 0 },
		"Base":         func(e *api.Ensemble) { e.Base = nil },
		"an output":    func(e *api.Ensemble) { e.Trees[0].Output = 1 },
		"no nodes":     func(e *api.Ensemble) { e.Trees[0].Nodes = nil },
		"a feature":    func(e *api.Ensemble) { e.Trees[0].Nodes[0].Feature = 1 },
		"a threshold":  func(e *api.Ensemble) { e.Trees[0].Nodes[0].Threshold = nan },
		"no tree":      func(e *api.Ensemble) { e.Trees[0].Nodes[0].Right = 1 },
		"the room":     func(e *api.Ensemble) { e.Base[0] = api.MaxSum },
		"great leaves": func(e *api.Ensemble) { e.Trees[0] = stump(1, math.MinInt64, math.MaxInt64) },
		"trees":        func(e *api.Ensemble) { e.Trees = slices.Repeat([]api.Tree{leaf(0)}, api.MaxTrees+1) },
	} {
		e := example()
		spoil(&e)
		all[what] = e
	}
	return all
}

func TestWrongEnsembles(t *testing.T) {
	for what, e := range wrongEnsembles() {
		for _, x := range [][]float64{nil, at(1), at(1, 2)} { // whatever else is wrong
			noBounds(t, what, e, x, 0, api.ErrModel)
			noBounds(t, what, e, x, -1, api.ErrModel)
			noAbove(t, what, e, x, 0, 0, api.ErrModel)
			noAbove(t, what, e, x, 9, 0, api.ErrModel)
			noClass(t, what, e, x, api.ErrModel)
			noTop(t, what, e, [][]float64{x}, 0, 1, api.ErrModel)
			noTop(t, what, e, [][]float64{x}, 9, -1, api.ErrModel)
		}
		noTop(t, what, e, nil, 0, 0, api.ErrModel)
		noOrder(t, what, e, []int{0, 1, 2}, api.ErrModel)
		noOrder(t, what, e, nil, api.ErrModel)
		if l, why := Plan(e); why != api.ErrModel || l != nil {
			t.Errorf("P24.5: Plan: %s: %v, %d", what, l, why)
		}
	}
}

func TestWrongVectors(t *testing.T) {
	e := example()
	for _, x := range [][]float64{nil, {}, {1, 2}, {1, nan, 3}} {
		for _, n := range []int{0, 3, -1, 4} {
			noBounds(t, "a vector", e, x, n, api.ErrVector)
		}
		for _, output := range []int{0, -1, 1} {
			noAbove(t, "a vector", e, x, output, 0, api.ErrVector)
			for _, k := range []int{0, 1, -1} {
				noTop(t, "a vector", e, [][]float64{x}, output, k, api.ErrVector)
				noTop(t, "the first vector", e, [][]float64{x, {1}, {2}}, output, k, api.ErrVector)
				noTop(t, "the last vector", e, [][]float64{{1}, {2}, x}, output, k, api.ErrVector)
			}
		}
		noClass(t, "a vector", e, x, api.ErrVector)
	}
	wide := e
	wide.Features = []string{"a", "b", "c"}
	isClass(t, "as many numbers", wide, at(1, 2, 3), 0, 0)
	noClass(t, "one more", wide, at(1, 2, 3, 4), api.ErrVector)
	noClass(t, "one fewer", wide, at(1, 2), api.ErrVector)
}

func TestBounds(t *testing.T) {
	e := base(ensemble(3, of(2, stump(1, -5, 7)), stump(1, 3, 2), of(2, stump(4, 1, 9)), of(2, leaf(-1))), 10, 20, 30)
	isBounds(t, "outputs", e, at(2), 0, 12, 13, 20, 20, 25, 45)
	isBounds(t, "outputs", e, at(2), 1, 12, 13, 20, 20, 37, 45)
	isBounds(t, "outputs", e, at(2), 2, 12, 12, 20, 20, 37, 45)
	isBounds(t, "outputs", e, at(2), 3, 12, 12, 20, 20, 37, 37)
	isBounds(t, "outputs", e, at(2), 4, 12, 12, 20, 20, 37, 37)
	isBounds(t, "NaN", e, at(nan), 1, 12, 13, 20, 20, 25, 33)
	isBounds(t, "-inf", e, at(-endless), 4, 13, 13, 20, 20, 25, 25)
	isBounds(t, "inf", e, at(endless), 4, 12, 12, 20, 20, 45, 45)
	for _, n := range []int{-1, 5, math.MinInt, math.MaxInt} {
		noBounds(t, "no such number", e, at(2), n, api.ErrRange)
	}
	isBounds(t, "no trees", base(ensemble(2), 4, -4), at(2), 0, 4, 4, -4, -4)
	noBounds(t, "no trees", ensemble(1), at(2), 1, api.ErrRange)
	noBounds(t, "no trees", ensemble(1), at(2), -1, api.ErrRange)
	one := base(ensemble(1, leaf(3), leaf(-9)), 1)
	for n := range 3 {
		isBounds(t, "trees of one leaf", one, at(2), n, -5, -5)
	}
	// Thresholds that no vector gets beyond count all the same: a tree's span is that of its leaves.
	isBounds(t, "a leaf that none comes to", ensemble(1, stump(endless, 1, 50)), at(3), 0, 1, 50)
	isBounds(t, "a leaf that none comes to", ensemble(1, stump(endless, 1, 50)), at(3), 1, 1, 1)
	// At the edge of what there is room for.
	for _, sign := range []int64{1, -1} {
		g := base(ensemble(1, stump(1, sign*5, -sign*5), stump(1, 0, sign*7)), sign*(api.MaxSum-13))
		score := sign * (api.MaxSum - 13)
		isBounds(t, "room", g, at(0), 0, min(score-sign*5, score+sign*12), max(score-sign*5, score+sign*12))
		isBounds(t, "room", g, at(0), 1, min(score+sign*5, score+sign*12), max(score+sign*5, score+sign*12))
		isBounds(t, "room", g, at(0), 2, score+sign*5, score+sign*5)
	}
	big := ensemble(1, stump(1, api.MaxSum-1, 1-api.MaxSum))
	isBounds(t, "one great tree", big, at(0), 0, 1-api.MaxSum, api.MaxSum-1)
	isBounds(t, "one great tree", big, at(0), 1, api.MaxSum-1, api.MaxSum-1)
	isBounds(t, "one great tree", big, at(2), 1, 1-api.MaxSum, 1-api.MaxSum)
}

func TestAbove(t *testing.T) {
	e := example() // ahead of all trees 1 to 14; of 5: 11 to 14, then 14; of 1.5: 11 to 14, then 11; of 0: 1 to 4, then 1
	for limit, want := range map[int64]int{0: 0, 1: 1, 10: 1, 11: 2, 13: 2} {
		isAbove(t, "of 14", e, at(5), 0, limit, true, want)
	}
	for limit, want := range map[int64]int{14: 0, 15: 0, math.MaxInt64: 0} {
		isAbove(t, "of 14", e, at(5), 0, limit, false, want)
	}
	for limit, want := range map[int64]int{11: 2, 12: 2, 13: 2, 14: 0} {
		isAbove(t, "of 11", e, at(1.5), 0, limit, false, want)
	}
	isAbove(t, "of 11", e, at(1.5), 0, 10, true, 1)
	isAbove(t, "of 1", e, at(0), 0, 4, false, 1)
	isAbove(t, "of 1", e, at(0), 0, 3, false, 2)
	isAbove(t, "of 1", e, at(0), 0, 1, false, 2)
	isAbove(t, "of 1", e, at(0), 0, 0, true, 0)
	isAbove(t, "the least limit", e, at(0), 0, math.MinInt64, true, 0)
	isAbove(t, "the greatest limit", e, at(0), 0, math.MaxInt64, false, 0)
	isAbove(t, "no trees", base(ensemble(1), 5), at(0), 0, 4, true, 0)
	isAbove(t, "no trees", base(ensemble(1), 5), at(0), 0, 5, false, 0)
	isAbove(t, "trees of one leaf", ensemble(1, leaf(2), leaf(3)), at(0), 0, 4, true, 0)
	isAbove(t, "trees of one leaf", ensemble(1, leaf(2), leaf(3)), at(0), 0, 5, false, 0)

	// Trees of other outputs are counted, but they decide nothing.
	many := ensemble(2, of(1, stump(1, 0, 100)), stump(1, 0, 10), of(1, stump(2, 0, 50)), stump(2, 0, 3))
	isAbove(t, "the first output", many, at(5), 0, 9, true, 2)
	isAbove(t, "the first output", many, at(5), 0, 10, true, 4)
	isAbove(t, "the first output", many, at(1.5), 0, 10, false, 4)
	isAbove(t, "the second output", many, at(5), 1, 60, true, 1)
	isAbove(t, "the second output", many, at(5), 1, 100, true, 3)
	isAbove(t, "the second output", many, at(0), 1, 60, false, 1)
	for _, output := range []int{-1, 2, math.MinInt, math.MaxInt} {
		noAbove(t, "no such output", many, at(5), output, 0, api.ErrRange)
	}
	for _, sign := range []int64{1, -1} {
		g := base(ensemble(1, stump(1, sign, -sign)), sign*(api.MaxSum-2))
		isAbove(t, "room", g, at(0), 0, math.MaxInt64, false, 0)
		isAbove(t, "room", g, at(0), 0, math.MinInt64, true, 0)
		isAbove(t, "room", g, at(0), 0, sign*(api.MaxSum-1)-1, true, map[int64]int{1: 1, -1: 0}[sign])
		isAbove(t, "room", g, at(0), 0, sign*(api.MaxSum-1), false, map[int64]int{1: 0, -1: 1}[sign])
	}
}

func TestClass(t *testing.T) {
	isClass(t, "one output", example(), at(3), 0, 0)
	isClass(t, "no trees", ensemble(1), at(3), 0, 0)
	isClass(t, "no trees, alike", base(ensemble(3), 4, 4, 4), at(3), 0, 0)
	isClass(t, "no trees, the second", base(ensemble(3), 3, 4, 4), at(3), 1, 0)
	isClass(t, "no trees, the last", base(ensemble(3), 3, 4, 5), at(3), 2, 0)
	isClass(t, "below nought", base(ensemble(3), -3, -4, -5), at(3), 0, 0)
	isClass(t, "trees of one leaf", ensemble(3, of(1, leaf(5)), of(2, leaf(6)), leaf(7)), at(3), 0, 0)

	// Alike at once, and only behind all trees.
	alike := ensemble(2, stump(1, 0, 5), of(1, stump(2, 0, 5)))
	isClass(t, "alike behind all", alike, at(5), 0, 1) // 5 and 0 to 5: it can not lose any more
	isClass(t, "alike behind all", alike, at(0), 0, 2)
	isClass(t, "the second", alike, at(1), 0, 2)
	isClass(t, "one ahead", ensemble(2, stump(1, 5, 0), of(1, stump(2, 0, 5))), at(2.5), 1, 2)
	// 3 to 8 and 5: the second one needs to be above what is ahead of it.
	behind := base(ensemble(2, stump(1, 0, 5)), 3, 5)
	isClass(t, "one ahead of it may be alike", base(ensemble(2, stump(1, 0, 2)), 3, 5), at(0), 1, 1)
	isClass(t, "one ahead of it is alike", base(ensemble(2, stump(1, 0, 2)), 3, 5), at(3), 0, 1)
	isClass(t, "one ahead of it can not", base(ensemble(2, stump(1, 0, 1)), 3, 5), at(0), 1, 0)
	isClass(t, "one ahead of it", behind, at(0), 1, 1)
	isClass(t, "one behind it may be alike", base(ensemble(2, of(1, stump(1, 0, 2))), 5, 3), at(3), 0, 0)
	isClass(t, "one behind it may be more", base(ensemble(2, of(1, stump(1, 0, 3))), 5, 3), at(3), 1, 1)
	isClass(t, "one behind it may be more", base(ensemble(2, of(1, stump(1, 0, 3))), 5, 3), at(0), 0, 1)

	// Three outputs, decided by the trees of the third, though the first are still open.
	three := base(ensemble(3, of(2, stump(1, 0, 90)), stump(1, 0, 10), of(1, stump(1, 0, 20))), 0, 0, 0)
	isClass(t, "the third", three, at(5), 2, 1)
	isClass(t, "not the third", three, at(0), 0, 3)
	isClass(t, "the second", base(three, 0, 0, -100), at(5), 1, 3)
	isClass(t, "in the middle", base(ensemble(3, of(1, stump(1, 0, 9))), 4, 0, 9), at(5), 1, 1)
	isClass(t, "in the middle, alike the one ahead", base(ensemble(3, of(1, stump(1, 0, 9))), 9, 0, 4), at(5), 0, 0)
	isClass(t, "in the middle, one more than the one ahead", base(ensemble(3, of(1, stump(1, 0, 10))), 9, 0, 10), at(5), 1, 1)
	isClass(t, "in the middle, one fewer than the one behind", base(ensemble(3, of(1, stump(1, 0, 10))), 9, 0, 11), at(5), 2, 0)
	isClass(t, "NaN", three, at(nan), 0, 3)
	many := ensemble(api.MaxOutputs)
	for i := range api.MaxOutputs {
		many.Trees = append(many.Trees, of(i, stump(1, int64(i), int64(-i))))
	}
	isClass(t, "MaxOutputs", many, at(0), 63, 64)
	isClass(t, "MaxOutputs", many, at(2), 0, 64)
}

func TestTop(t *testing.T) {
	e := example()
	l := vectors(0, 5, 1.5)
	isTop(t, "nothing is asked", e, l, 0, 0, 0)
	isTop(t, "two", e, l, 0, 2, 3+2+2, 1, 2) // behind A the first one has two ahead of it
	isTop(t, "all", e, l, 0, 3, 9, 1, 2, 0)
	isTop(t, "more than all", e, l, 0, 4, 9, 1, 2, 0)
	isTop(t, "far more than all", e, l, 0, math.MaxInt, 9, 1, 2, 0)
	isTop(t, "no vectors", e, nil, 0, 3, 0)
	isTop(t, "no vectors", e, [][]float64{}, 0, 0, 0)
	isTop(t, "one vector", e, vectors(3), 0, 1, 3, 0)
	isTop(t, "no trees", ensemble(1), l, 0, 2, 0, 0, 1)
	isTop(t, "no trees, all", ensemble(1), l, 0, 9, 0, 0, 1, 2)
	// Alike ones are closed by those ahead of them, as soon as nothing is open of their scores.
	isTop(t, "trees of one leaf", ensemble(1, leaf(1), leaf(2)), l, 0, 1, 3+1, 0)
	isTop(t, "trees of one leaf", ensemble(1, leaf(1), leaf(2)), l, 0, 2, 3+2, 0, 1)
	isTop(t, "alike", e, vectors(5, 5, 5, 5), 0, 2, 4+4+2, 0, 1)
	isTop(t, "alike in part", e, vectors(0, 7, 0, 5, 6), 0, 2, 5+3+2, 1, 3)
	isTop(t, "alike at the end", e, vectors(0, 1, 5, minus0), 0, 3, 4*2+3, 2, 0, 1)
	isTop(t, "behind one that is alike", e, vectors(5, 0, 1), 0, 2, 3*2+2, 0, 1)

	// The last ones win in the end: nothing is closed ahead of the last tree.
	late := ensemble(1, stump(1, 0, 1), stump(2, 0, 1), stump(3, 0, 50))
	isTop(t, "late", late, vectors(0, 1.5, 2.5, 3.5), 0, 1, 12, 3)
	early := ensemble(1, late.Trees[2], late.Trees[1], late.Trees[0])
	isTop(t, "early", early, vectors(0, 1.5, 2.5, 3.5), 0, 1, 4+1+1, 3)

	// Trees of other outputs are asked too.
	many := ensemble(2, of(1, stump(1, 0, 4)), stump(2, 0, 5), of(1, stump(2, 3, 0)))
	isTop(t, "the first output", many, vectors(0, 1.5, 2.5), 0, 1, 3+3+1, 2)
	isTop(t, "the second output", many, vectors(0, 1.5, 2.5), 1, 1, 3+2+2, 1) // behind the first tree 0 to 3, 4 to 7, 4 to 7
	for _, output := range []int{-1, 2, math.MinInt, math.MaxInt} {
		for _, k := range []int{0, 1, -1} {
			noTop(t, "no such output", many, vectors(0), output, k, api.ErrRange)
			noTop(t, "no such output", many, nil, output, k, api.ErrRange)
		}
	}
	for _, k := range []int{-1, math.MinInt} {
		noTop(t, "k", many, vectors(0), 0, k, api.ErrRange)
		noTop(t, "k", many, nil, 1, k, api.ErrRange)
	}
	idle := ensemble(2, of(1, stump(1, 0, 4)), of(1, stump(2, 0, 4)))
	isTop(t, "an output without trees", idle, l, 0, 1, 3+1, 0)
	isTop(t, "numbers of all kinds", e, vectors(nan, endless, -endless, minus0, 1, 2), 0, 6, 18, 1, 5, 0, 2, 3, 4)
}

func TestPlan(t *testing.T) {
	isPlan(t, "no trees", ensemble(1))
	isPlan(t, "one tree", ensemble(1, leaf(4)), 0)
	isPlan(t, "rising", ensemble(1, leaf(90), stump(1, 5, 6), stump(1, 9, -9), stump(1, -1, 1)), 2, 3, 1, 0)
	isPlan(t, "of the same width", ensemble(1, stump(1, 0, 3), stump(1, 7, 4), leaf(2), stump(1, -3, 0), leaf(9), stump(1, -2, 2)), 5, 0, 1, 3, 2, 4)
	isPlan(t, "whatever the output", ensemble(2, stump(1, 0, 3), of(1, stump(1, 0, 5)), stump(1, 0, 4)), 1, 2, 0)
	const most = api.MaxSum - 1
	wide := ensemble(3, stump(1, -most/2, most/2), of(1, stump(1, -most, most)), of(2, stump(1, 0, most)))
	isPlan(t, "the greatest widths", wide, 1, 2, 0)
	wide = ensemble(3, of(2, stump(1, most, 1-most)), of(1, stump(1, -most, most)), stump(1, 1-most, most-1))
	isPlan(t, "the greatest widths", wide, 1, 0, 2)
	three := api.Tree{Nodes: []api.Node{{Kind: api.NodeNumber, Missing: left, Left: 1, Right: 2}, leafOf(4), {Kind: api.NodeNumber, Missing: left, Left: 3, Right: 4}, leafOf(9), leafOf(-2)}}
	isPlan(t, "all leaves count", ensemble(1, stump(1, 0, 10), three, stump(1, 0, 12)), 2, 1, 0)
	below := api.Tree{Nodes: []api.Node{{Kind: api.NodeNumber, Missing: left, Left: 1, Right: 2}, leafOf(5), leafOf(7)}}
	isPlan(t, "an inner node's Value does not count", ensemble(1, stump(1, 0, 3), below), 0, 1)
	var many []api.Tree
	var want []int
	for i := range 5000 {
		many = append(many, stump(1, 0, 1))
		want = append(want, i)
	}
	isPlan(t, "many of one width", ensemble(1, many...), want...)
}

func TestOrder(t *testing.T) {
	e := example()
	for _, l := range [][]int{{0, 1, 2}, {2, 1, 0}, {1, 2, 0}, {2, 0, 1}} {
		want := ensemble(1, e.Trees[l[0]], e.Trees[l[1]], e.Trees[l[2]])
		if got, why := Order(e, l); why != api.OK || !trees.Same(got, want) {
			t.Errorf("P24.5: Order by %v: %v, %d", l, got, why)
		}
	}
	for what, l := range map[string][]int{
		"lacks one":           {0, 1},
		"lacks all":           nil,
		"one twice":           {0, 1, 1},
		"one twice and more":  {0, 1, 2, 2},
		"one more":            {0, 1, 2, 3},
		"one out of range":    {0, 1, 3},
		"one below the range": {0, -1, 2},
		"far out of range":    {math.MinInt, 1, math.MaxInt},
		"the last one twice":  {2, 1, 2},
		"the first one twice": {0, 0, 2},
	} {
		noOrder(t, what, e, l, api.ErrSize)
	}
	if got, why := Order(ensemble(1), nil); why != api.OK || !trees.Same(got, ensemble(1)) {
		t.Errorf("P24.5: Order of no trees: %v, %d", got, why)
	}
	if got, why := Order(ensemble(1), []int{}); why != api.OK || !trees.Same(got, ensemble(1)) {
		t.Errorf("P24.5: Order of no trees: %v, %d", got, why)
	}
	noOrder(t, "of no trees", ensemble(1), []int{0}, api.ErrSize)
	noOrder(t, "of no trees", ensemble(1), []int{-1}, api.ErrSize)
	full := ensemble(2, slices.Repeat([]api.Tree{stump(1, 1, 2), of(1, leaf(3))}, api.MaxTrees/2)...)
	full.Name, full.Base, full.Features = "n", []int64{4, 5}, []string{"x", "y"}
	l, why := Plan(full)
	if why != api.OK || len(l) != api.MaxTrees || l[1] != 2 || l[api.MaxTrees/2] != 1 {
		t.Fatal("P24.5: Plan of MaxTrees:", why)
	}
	got, why := Order(full, l)
	if why != api.OK || got.Name != "n" || fmt.Sprint(got.Base, got.Features, got.Outputs) != "[4 5] [x y] 2" {
		t.Error("P24.5: Order of MaxTrees:", why)
	}
	for to, from := range l {
		if !trees.Alike(got.Trees[to], full.Trees[from]) {
			t.Fatal("P24.5: Order of MaxTrees: tree", to)
		}
	}
}

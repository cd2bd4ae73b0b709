package blocks

import (
	"fmt"
	"math"
	"testing"

	"thicket/api"
)

// chain is a tree with so many leaves that leans all to one side, of nodes with that feature.
func chain(leaves int, side api.Side, feature int) api.Tree {
	var t api.Tree
	for i := range leaves - 1 {
		n := numberOf(feature, float64(i%5), right, 2*i+2, 2*i+1)
		if side == right {
			n.Left, n.Right = n.Right, n.Left
		}
		t.Nodes = append(t.Nodes, n, leafOf(int64(i)))
	}
	t.Nodes = append(t.Nodes, leafOf(int64(leaves-1)))
	return t
}

// alike are so many trees that share their nodes.
func alike(many int, g api.Tree) []api.Tree {
	l := make([]api.Tree, many)
	for i := range l {
		l[i] = g
	}
	return l
}

// refused holds all that take an ensemble to an error, with which nothing else is told, whatever else is wrong.
func refused(t *testing.T, what string, e api.Ensemble, want api.Errno) {
	t.Helper()
	for _, most := range []int{0, 5, -1} {
		l, why := Plan(e, most)
		noRuns(t, "15.2: "+what, l, why, want)
	}
	whole := runs(0, len(e.Trees))
	for _, l := range [][]api.Run{whole, nil, runs(0, 1), runs(3, 2)} {
		f, why := Of(e, l)
		noForm(t, "15.3: "+what, f, why, want)
	}
	for _, b := range []int{1, 2, api.MaxTrees, 0, -1, api.MaxTrees + 1} {
		f, why := Compile(e, b)
		noForm(t, "15.3: "+what, f, why, want)
	}
}

// taken holds them to have no error.
func taken(t *testing.T, what string, e api.Ensemble) {
	t.Helper()
	if _, why := Plan(e, 5); why != api.OK {
		t.Errorf("15.2: %s: %d", what, why)
	}
	f, why := Compile(e, 2)
	if why != api.OK || f.Features != len(e.Features) || f.Outputs != e.Outputs {
		t.Fatalf("15.3: %s: %d, %s", what, why, said(f))
	}
	isBack(t, what, e, f)
}

// flaws are ways to break an ensemble of two features and trees, in the order of their errors.
func flaws() []struct {
	what string
	why  api.Errno
	do   func(e *api.Ensemble)
} {
	last := func(e *api.Ensemble) *api.Tree { return &e.Trees[len(e.Trees)-1] }
	return []struct {
		what string
		why  api.Errno
		do   func(e *api.Ensemble)
	}{
		{"no outputs", api.ErrSize, func(e *api.Ensemble) { e.Outputs, e.Base = 0, nil }},
		{"too many trees", api.ErrMany, func(e *api.Ensemble) { e.Trees = append(alike(api.MaxTrees, treeOf(leafOf(1))), e.Trees...) }},
		{"a node", api.ErrSplit, func(e *api.Ensemble) { last(e).Nodes[len(last(e).Nodes)-1].Left = 1 }},
		{"a loose node", api.ErrShape, func(e *api.Ensemble) { last(e).Nodes = append(last(e).Nodes, leafOf(1)) }},
		{"too many leaves", api.ErrMany, func(e *api.Ensemble) { *last(e) = chain(api.MaxLeaves+1, left, 0) }},
		{"an output", api.ErrSize, func(e *api.Ensemble) { last(e).Output = 1 }},
		{"a feature", api.ErrVector, func(e *api.Ensemble) { last(e).Nodes[0].Feature = 2 }},
	}
}

func TestEachFlaw(t *testing.T) {
	for _, flaw := range flaws() {
		e := pair()
		flaw.do(&e)
		refused(t, flaw.what, e, flaw.why)
		e.Trees = append(e.Trees, treeB(), treeOf(leafOf(1)))
		refused(t, flaw.what+" ahead of right ones", e, flaw.why)
	}
}

// Of several errors the first is told; a tree's, ahead of those of the trees behind it.
func TestSeveralFlaws(t *testing.T) {
	const heads = 2 // those are not of a tree
	for which := 1; which < 1<<len(flaws()); which++ {
		e := pair()
		var want api.Errno
		// The last one is done first, so that what makes a tree of its own does not undo what was done to one.
		for i := len(flaws()) - 1; i >= 0; i-- {
			if flaw := flaws()[i]; which>>i&1 == 1 {
				want = flaw.why
			}
		}
		order := []int{4, 6, 5, 3, 2, 1, 0}
		for _, i := range order {
			if which>>i&1 == 1 {
				flaws()[i].do(&e)
			}
		}
		refused(t, fmt.Sprintf("flaws %b", which), e, want)
	}
	for i, one := range flaws()[heads:] {
		for k, other := range flaws()[heads:] {
			e := pair()
			one.do(&e)
			e.Trees = append(e.Trees, treeA())
			other.do(&e)
			refused(t, fmt.Sprintf("flaw %d ahead of %d", i, k), e, one.why)
		}
	}
}

// Each way in which a head may not be, and its edges.
func TestHeads(t *testing.T) {
	head := func(features, outputs, base int) api.Ensemble {
		return api.Ensemble{Features: make([]string, features), Outputs: outputs, Base: make([]int64, base)}
	}
	for _, e := range []api.Ensemble{head(0, 1, 1), head(2, 1, 1), head(2, 2, 2), head(1, api.MaxOutputs, api.MaxOutputs), head(api.MaxFeatures, 1, 1), head(api.MaxFeatures, api.MaxOutputs, api.MaxOutputs)} {
		taken(t, "a head", e)
		f := api.Form{Features: len(e.Features), Outputs: e.Outputs, Base: e.Base}
		isRight(t, "a head", f)
	}
	for _, e := range []api.Ensemble{
		{}, head(2, 0, 0), head(2, 0, 1), head(2, -1, 0), head(2, -1, 1), head(2, 1, 0), head(2, 1, 2), head(2, 2, 1), head(2, 3, 4), head(2, math.MinInt, 0), head(2, math.MaxInt, 1),
		head(2, api.MaxOutputs+1, api.MaxOutputs+1), head(2, api.MaxOutputs, api.MaxOutputs-1), head(2, api.MaxOutputs, api.MaxOutputs+1), head(api.MaxFeatures+1, 1, 1), head(api.MaxFeatures+1, 0, 0),
	} {
		refused(t, "a head", e, api.ErrSize)
		f := api.Form{Features: len(e.Features), Outputs: e.Outputs, Base: e.Base}
		isWrong(t, "a head", f, 0)
		e.Trees = pair().Trees
		refused(t, "a head, and trees", e, api.ErrSize)
		f.Blocks = narrow().Blocks // the form without any block is wrong already
		isWrong(t, "a head, and blocks", f, 0)
		f.Blocks[0].First = 9
		isWrong(t, "a head, and wrong blocks", f, 0)
	}
	for _, features := range []int{-1, math.MinInt, api.MaxFeatures + 1, math.MaxInt} {
		isWrong(t, "features", api.Form{Features: features, Outputs: 1, Base: []int64{1}}, 0)
		f := narrow()
		f.Features = features
		isWrong(t, "features, and blocks", f, 0)
	}
}

func TestLimitOfTrees(t *testing.T) {
	const most = api.MaxTrees
	leaf := treeOf(leafOf(1))
	e := ensemble(0, alike(most, leaf)...)
	taken(t, "MaxTrees", e)
	refused(t, "one more", ensemble(0, alike(most+1, leaf)...), api.ErrMany)
	refused(t, "one more, and none right", ensemble(0, alike(most+1, api.Tree{})...), api.ErrMany)
	for _, b := range []int{1, most / 2, most - 1, most} {
		f, why := Compile(e, b)
		if why != api.OK {
			t.Fatalf("15.3: MaxTrees in blocks of %d: %d", b, why)
		}
		isBack(t, "MaxTrees", e, f)
		more := api.Block{First: most, Leaves: []int{1}, Values: [][]int64{{1}}, Outputs: []int{0}}
		f.Blocks = append(f.Blocks, more)
		isWrong(t, "one block more", f, len(f.Blocks)-1)
		f.Blocks = f.Blocks[:len(f.Blocks)-1]
		last := &f.Blocks[len(f.Blocks)-1]
		last.Leaves, last.Values, last.Outputs = append(last.Leaves, 1), append(last.Values, []int64{1}), append(last.Outputs, 0)
		isWrong(t, "one tree more", f, len(f.Blocks)-1)
	}
	stumps := ensemble(2, alike(most, treeA())...)
	f, why := Compile(stumps, most)
	if why != api.OK || len(f.Blocks) != 1 || len(f.Blocks[0].Lists) != 1 || len(f.Blocks[0].Lists[0].Numbers) != most {
		t.Fatalf("15.3: MaxTrees with a cut each: %d", why)
	}
	isBack(t, "MaxTrees with a cut each", stumps, f)
}

func TestLimitOfLeaves(t *testing.T) {
	for _, side := range []api.Side{left, right} {
		taken(t, "MaxLeaves", ensemble(2, treeA(), chain(api.MaxLeaves, side, 1)))
		refused(t, "one leaf more", ensemble(2, treeA(), chain(api.MaxLeaves+1, side, 1)), api.ErrMany)
		refused(t, "a deep tree", ensemble(2, chain(1<<18, side, 1)), api.ErrMany)
	}
	// Forms of a tree that no ensemble may have, which leans to either side.
	for _, leaves := range []int{api.MaxLeaves, api.MaxLeaves + 1, 1 << 16} {
		for _, side := range []api.Side{left, right} {
			b := api.Block{Leaves: []int{leaves}, Values: [][]int64{make([]int64, leaves)}, Outputs: []int{0}, Lists: []api.List{{}}}
			for i := 1; i < leaves; i++ {
				if side == left {
					b.Lists[0].Numbers = append(b.Lists[0].Numbers, cut(0, 0, 0, leaves-i))
				} else {
					b.Lists[0].Numbers = append(b.Lists[0].Numbers, cut(0, 0, i-1, i))
				}
			}
			f := api.Form{Features: 1, Outputs: 1, Base: []int64{1}, Blocks: []api.Block{b}}
			if leaves > api.MaxLeaves {
				isWrong(t, "more leaves", f, 0)
			} else {
				isRight(t, "MaxLeaves", f)
			}
		}
	}
}

func TestLimitOfOutputsAndFeatures(t *testing.T) {
	e := ensemble(2, treeA(), treeB())
	e.Outputs, e.Base = api.MaxOutputs, make([]int64, api.MaxOutputs)
	e.Trees[1].Output = api.MaxOutputs - 1
	taken(t, "the last output", e)
	for _, output := range []int{-1, api.MaxOutputs, math.MaxInt, math.MinInt} {
		e.Trees[1].Output = output
		refused(t, "an output", e, api.ErrSize)
	}
	last := stump(numberOf(api.MaxFeatures-1, 3, left, 0, 0))
	taken(t, "the last feature", ensemble(api.MaxFeatures, last))
	refused(t, "one feature fewer", ensemble(api.MaxFeatures-1, last), api.ErrVector)
	refused(t, "no features", ensemble(0, last), api.ErrVector)
	refused(t, "a feature that no tree may have", ensemble(api.MaxFeatures, stump(numberOf(api.MaxFeatures, 3, left, 0, 0))), api.ErrSplit)
	deep := treeOf(numberOf(0, 0, left, 1, 2), leafOf(1), catsOf(3, left, 3, 4, 0), leafOf(2), leafOf(3))
	for features := 1; features < 4; features++ {
		refused(t, "a feature below another node", ensemble(features, deep), api.ErrVector)
	}
	taken(t, "just as many features", ensemble(4, deep))
	refused(t, "no nodes", ensemble(2, treeA(), api.Tree{}), api.ErrShape)
}

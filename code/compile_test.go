package code

import (
	"fmt"
	"math"
	"slices"
	"testing"

	"thicket/api"
	"thicket/trees"
)

// notCompiled holds Compile to an error.
func notCompiled(t *testing.T, what string, e api.Ensemble, want api.Errno) {
	t.Helper()
	p, why := Compile(e)
	noCode(t, "19.2: "+what, p, why, want)
}

// compiled is the program of an ensemble, which says what it says.
func compiled(t *testing.T, what string, e api.Ensemble) api.Program {
	t.Helper()
	p, why := Compile(e)
	if why != api.OK {
		t.Fatalf("19.2: %s: %d", what, why)
	}
	if why, at := Check(p); why != api.OK {
		t.Fatalf("19.2: %s: a program that is not right: %d at %d", what, why, at)
	}
	for _, v := range []float64{0, 1, nan, endless, -endless, 0.5, 3} {
		x := slices.Repeat([]float64{v}, len(e.Features))
		want, _ := trees.Score(e, x)
		if l, _, why := Run(p, x); why != api.OK || !slices.Equal(l, want) {
			t.Errorf("19.8: %s: %v of %v, %d, not %v", what, l, v, why, want)
		}
	}
	return p
}

// Where the code of each node stands, in trees whose nodes are numbered otherwise.
func TestCompile(t *testing.T) {
	deep := treeOf(numberOf(1, 0.5, right, 2, 1), leafOf(30), catsOf(0, left, 3, 4, 1, 3), leafOf(10), leafOf(20))
	deep.Output = 1
	e := ensemble(2, deep, treeOf(leafOf(7)), treeOf(numberOf(0, minus0, left, 1, 2), leafOf(0), numberOf(1, -endless, right, 4, 3), leafOf(2), leafOf(1)))
	e.Outputs, e.Base = 2, []int64{0, -5}
	want := program(2, 2,
		plus(0, 0), plus(1, -5),
		test(1, 0.5, right, 8), in(0, left, 6, 1, 3), plus(1, 10), leap(9), plus(1, 20), leap(9), plus(1, 30),
		plus(0, 7),
		test(0, minus0, left, 13), plus(0, 0), leap(17), test(1, -endless, right, 16), plus(0, 1), leap(17), plus(0, 2),
		end(),
	)
	isCode(t, "19.2", compiled(t, "three trees", e), api.OK, want)
	isCode(t, "19.2: the second opinion", compileByWords(e), api.OK, want)
}

func TestCompileSmall(t *testing.T) {
	isCode(t, "19.2: no trees", compiled(t, "no trees", ensemble(2)), api.OK, program(2, 1, plus(0, 100), end()))
	isCode(t, "19.2: no features", compiled(t, "no features", ensemble(0)), api.OK, program(0, 1, plus(0, 100), end()))
	isCode(t, "19.2: no features, and a leaf", compiled(t, "no features", ensemble(0, treeOf(leafOf(-1)))), api.OK, program(0, 1, plus(0, 100), plus(0, -1), end()))
	e := ensemble(1, treeOf(leafOf(0)), treeOf(leafOf(3)))
	e.Base[0] = 0
	isCode(t, "19.2: leaves, and Base 0", compiled(t, "leaves", e), api.OK, program(1, 1, plus(0, 0), plus(0, 0), plus(0, 3), end()))
	// What is no matter of this layer: names, rooms, how many trees and leaves there are.
	e.Name, e.Features = "", []string{"", "", "?"}
	isCode(t, "19.2: names", compiled(t, "names", e), api.OK, program(3, 1, plus(0, 0), plus(0, 0), plus(0, 3), end()))
	e.Base[0] = math.MinInt64
	compiled(t, "a room", e)
}

func TestCompileHeads(t *testing.T) {
	head := func(features, outputs, base int) api.Ensemble {
		return api.Ensemble{Features: make([]string, features), Outputs: outputs, Base: make([]int64, base)}
	}
	for _, e := range []api.Ensemble{head(0, 1, 1), head(2, 1, 1), head(2, 2, 2), head(1, api.MaxOutputs, api.MaxOutputs), head(api.MaxFeatures, 1, 1), head(api.MaxFeatures, api.MaxOutputs, api.MaxOutputs)} {
		p := compiled(t, "a head", e)
		if len(p.Ops) != e.Outputs+1 || p.Features != len(e.Features) || p.Outputs != e.Outputs {
			t.Errorf("19.2: a head: %v", p)
		}
	}
	for _, e := range []api.Ensemble{
		{}, head(2, 0, 0), head(2, 0, 1), head(2, -1, 0), head(2, -1, 1), head(2, 1, 0), head(2, 1, 2), head(2, 2, 1), head(2, 3, 4), head(2, math.MinInt, 0), head(2, math.MaxInt, 1),
		head(2, api.MaxOutputs+1, api.MaxOutputs+1), head(2, api.MaxOutputs, api.MaxOutputs-1), head(2, api.MaxOutputs, api.MaxOutputs+1), head(api.MaxFeatures+1, 1, 1), head(api.MaxFeatures+1, 0, 0),
	} {
		notCompiled(t, "a head", e, api.ErrSize)
		e.Trees = []api.Tree{{}}
		notCompiled(t, "a head, and a tree without a node", e, api.ErrSize)
	}
}

// flaws are ways to break an ensemble's last tree, in the order of their errors.
func flaws() []struct {
	what string
	why  api.Errno
	do   func(e *api.Ensemble)
} {
	last := func(e *api.Ensemble) *api.Tree { return &e.Trees[len(e.Trees)-1] }
	return []struct {
		what string
		why  api.Errno
		do   func(e *api.Ensemble)
	}{
		{"a node", api.ErrSplit, func(e *api.Ensemble) { last(e).Nodes[len(last(e).Nodes)-1].Left = 1 }},
		{"a loose node", api.ErrShape, func(e *api.Ensemble) { last(e).Nodes = append(last(e).Nodes, leafOf(1)) }},
		{"an output", api.ErrSize, func(e *api.Ensemble) { last(e).Output = 1 }},
		{"a feature", api.ErrVector, func(e *api.Ensemble) { last(e).Nodes[0].Feature = 2 }},
	}
}

func splitTree() api.Tree {
	return treeOf(numberOf(1, 1, left, 1, 4), catsOf(0, right, 2, 3, 4), leafOf(1), leafOf(2), leafOf(3))
}

// Each fault alone, and several at once: of a tree the first is told, and a tree's ahead of those of the trees behind it.
func TestCompileFlaws(t *testing.T) {
	for which := 1; which < 1<<len(flaws()); which++ {
		e := ensemble(2, splitTree(), splitTree())
		var want api.Errno
		for i := len(flaws()) - 1; i >= 0; i-- {
			if which>>i&1 == 1 {
				want = flaws()[i].why
			}
		}
		for _, i := range []int{3, 2, 1, 0} {
			if which>>i&1 == 1 {
				flaws()[i].do(&e)
			}
		}
		notCompiled(t, fmt.Sprintf("flaws %b", which), e, want)
		e.Outputs = 0
		notCompiled(t, fmt.Sprintf("flaws %b, and no outputs", which), e, api.ErrSize)
	}
	for _, one := range flaws() {
		for _, other := range flaws() {
			e := ensemble(2, splitTree())
			one.do(&e)
			e.Trees = append(e.Trees, splitTree())
			other.do(&e)
			notCompiled(t, one.what+" ahead of "+other.what, e, one.why)
		}
	}
	notCompiled(t, "a tree without a node", ensemble(2, splitTree(), api.Tree{}), api.ErrShape)
	for _, output := range []int{-1, 1, 64, math.MinInt, math.MaxInt} {
		g := splitTree()
		g.Output = output
		notCompiled(t, "an output", ensemble(2, g), api.ErrSize)
		leaf := treeOf(leafOf(1))
		leaf.Output = output
		notCompiled(t, "a leaf's output", ensemble(0, leaf), api.ErrSize)
	}
	// A feature is one below the number of them, wherever the node stands.
	for _, features := range []int{0, 1} {
		notCompiled(t, "features", ensemble(features, splitTree()), api.ErrVector)
	}
	for at := range 2 {
		for feature, want := range map[int]api.Errno{0: api.OK, 1: api.OK, 2: api.ErrVector, api.MaxFeatures - 1: api.ErrVector, api.MaxFeatures: api.ErrSplit, -1: api.ErrSplit} {
			g := splitTree()
			g.Nodes[at].Feature = feature
			if p, why := Compile(ensemble(2, g)); why != want {
				t.Errorf("19.2: node %d of feature %d: %v, %d, not %d", at, feature, p, why, want)
			}
		}
	}
	compiled(t, "the last feature", ensemble(api.MaxFeatures, treeOf(numberOf(api.MaxFeatures-1, 1, left, 1, 2), leafOf(1), leafOf(2))))
}

// chain is a tree with so many leaves that leans all to one side.
func chain(leaves int, side api.Side) api.Tree {
	var t api.Tree
	for i := range leaves - 1 {
		n := numberOf(0, float64(i), right, 2*i+1, 2*i+2)
		if side == left {
			n = numberOf(0, float64(leaves-2-i), left, 2*i+2, 2*i+1)
		}
		t.Nodes = append(t.Nodes, n, leafOf(int64(i)))
	}
	t.Nodes = append(t.Nodes, leafOf(int64(leaves-1)))
	return t
}

// No limit is named of leaves and trees: deep trees and many are taken.
func TestCompileMany(t *testing.T) {
	for _, side := range []api.Side{left, right} {
		for _, leaves := range []int{2, api.MaxLeaves, api.MaxLeaves + 1, 1 << 16} {
			p := compiled(t, "a chain", ensemble(1, chain(leaves, side)))
			if len(p.Ops) != 1+(leaves-1)+2*leaves-1+1 {
				t.Errorf("19.2: a chain of %d leaves: %d operations", leaves, len(p.Ops))
			}
			q, why := Tidy(p)
			if why != api.OK || len(q.Ops) > len(p.Ops) {
				t.Errorf("19.9: a chain of %d leaves: %d operations, %d", leaves, len(q.Ops), why)
			}
			for _, v := range []float64{-1, 0, 1, float64(leaves), nan} {
				a, _, _ := Run(p, []float64{v})
				if b, _, why := Run(q, []float64{v}); why != api.OK || !slices.Equal(a, b) {
					t.Errorf("19.9: a chain of %d leaves, %v: %v, not %v", leaves, v, b, a)
				}
			}
		}
	}
	many := make([]api.Tree, api.MaxTrees+1)
	for i := range many {
		many[i] = splitTree()
	}
	p := compiled(t, "many trees", ensemble(2, many...))
	if len(p.Ops) != 1+7*len(many)+1 {
		t.Errorf("19.2: many trees: %d operations", len(p.Ops))
	}
	e := ensemble(1)
	e.Outputs, e.Base = api.MaxOutputs, make([]int64, api.MaxOutputs)
	for i := range e.Base {
		e.Base[i] = int64(i)
		e.Trees = append(e.Trees, api.Tree{Output: i, Nodes: []api.Node{leafOf(int64(100 * i))}})
	}
	compiled(t, "MaxOutputs", e)
}

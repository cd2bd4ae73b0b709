package slim

import (
	"fmt"
	"math"
	"math/rand/v2"
	"reflect"
	"slices"
	"testing"

	"thicket/api"
	"thicket/order"
	"thicket/rules"
	"thicket/trees"
)

const (
	left  = api.SideLeft
	right = api.SideRight
)

var (
	nan     = math.NaN()
	endless = math.Inf(1)
	minus0  = math.Copysign(0, -1)
)

func source() *rand.Rand { return rand.New(rand.NewPCG(22, 22)) }

func next(v float64) float64 { return math.Nextafter(v, endless) }

func prev(v float64) float64 { return math.Nextafter(v, -endless) }

func leafOf(v int64) api.Node { return api.Node{Kind: api.NodeLeaf, Value: v} }

func numberOf(feature int, threshold float64, missing api.Side, l, r int) api.Node {
	return api.Node{Kind: api.NodeNumber, Feature: feature, Threshold: threshold, Missing: missing, Left: l, Right: r}
}

func catsOf(feature int, missing api.Side, l, r int, cats ...int) api.Node {
	return api.Node{Kind: api.NodeCats, Feature: feature, Cats: cats, Missing: missing, Left: l, Right: r}
}

func treeOf(l ...api.Node) api.Tree { return api.Tree{Nodes: l} }

func leaf(v int64) api.Tree { return treeOf(leafOf(v)) }

// fork is a node over two trees, numbered from the root on.
func fork(n api.Node, l, r api.Tree) api.Tree {
	t := api.Tree{Nodes: []api.Node{n}}
	put := func(side api.Tree) int {
		at := len(t.Nodes)
		for _, m := range side.Nodes {
			if m.Kind != api.NodeLeaf {
				m.Left, m.Right = m.Left+at, m.Right+at
			}
			t.Nodes = append(t.Nodes, m)
		}
		return at
	}
	t.Nodes[0].Left = put(l)
	t.Nodes[0].Right = put(r)
	return t
}

// below is a node that asks for feature 0 whether a number is at most v; within, whether it is one of categories.
func below(v float64, missing api.Side, l, r api.Tree) api.Tree {
	return fork(numberOf(0, v, missing, 0, 0), l, r)
}

func within(missing api.Side, l, r api.Tree, cats ...int) api.Tree {
	return fork(catsOf(0, missing, 0, 0, cats...), l, r)
}

func ensemble(features int, l ...api.Tree) api.Ensemble {
	e := api.Ensemble{Name: "m", Outputs: 1, Base: []int64{100}, Trees: l}
	for i := range features {
		e.Features = append(e.Features, fmt.Sprint("f", i))
	}
	return e
}

// asked is how many numbers a vector of a tree needs.
func asked(g api.Tree) int {
	d := 0
	for _, n := range g.Nodes {
		d = max(d, n.Feature+1)
	}
	return d
}

// isDead holds a tree's dead nodes to be these; of the others each has a witness.
func isDead(t *testing.T, what string, g api.Tree, want ...int) {
	t.Helper()
	l, why := Dead(g)
	if why != api.OK || !slices.Equal(l, want) {
		t.Errorf("P22.1: %s: %v, %d, not %v, of %v", what, l, why, want, g)
	}
	for i := range g.Nodes {
		x, why := Witness(g, i, asked(g))
		if slices.Contains(want, i) {
			if why != api.ErrDead || x != nil {
				t.Errorf("P22.2: %s: node %d: %v, %d, not ErrDead", what, i, x, why)
			}
			continue
		}
		if way, no := trees.Way(g, x); why != api.OK || no != api.OK || !slices.Contains(way, i) {
			t.Errorf("P22.8: %s: node %d: %v, %d does not come to it", what, i, x, why)
		}
	}
}

// isWitness holds a node's witness to be these numbers.
func isWitness(t *testing.T, what string, g api.Tree, node int, want ...float64) {
	t.Helper()
	x, why := Witness(g, node, len(want))
	if why != api.OK || len(x) != len(want) {
		t.Errorf("P22.2: %s: node %d: %v, %d, not %v", what, node, x, why, want)
		return
	}
	for i, v := range want {
		if math.IsNaN(v) != math.IsNaN(x[i]) || !math.IsNaN(v) && math.Float64bits(v) != math.Float64bits(x[i]) {
			t.Errorf("P22.2: %s: node %d: %v, not %v", what, node, x, want)
		}
	}
}

func noWitness(t *testing.T, what string, g api.Tree, node, d int, want api.Errno) {
	t.Helper()
	x, why := Witness(g, node, d)
	if why != want {
		t.Errorf("P22.2: %s: %d, not %d", what, why, want)
	}
	if x != nil {
		t.Errorf("P2: %s: %v beside an error", what, x)
	}
}

// isSlim holds a tree's slim tree to be another one, bit for bit.
func isSlim(t *testing.T, what string, g, want api.Tree) {
	t.Helper()
	s, why := Tree(g)
	if why != api.OK || !trees.Alike(s, want) {
		t.Errorf("P22.3: %s: %v, %d, not %v, of %v", what, s, why, want, g)
	}
	if again, why := Tree(s); why != api.OK || !trees.Alike(again, s) {
		t.Errorf("P22.7: %s: slimmed again: %v, %d, not %v", what, again, why, s)
	}
}

// isSlimmed holds an ensemble to be slimmed to another one.
func isSlimmed(t *testing.T, what string, e, want api.Ensemble, nodes, many int) {
	t.Helper()
	s, why := Slim(e)
	if why != api.OK || !trees.Same(s, want) {
		t.Errorf("P22.4: %s: %v, %d, not %v", what, s, why, want)
	}
	if n, m, why := Saved(e); why != api.OK || n != nodes || m != many {
		t.Errorf("P22.4: %s: Saved = %d, %d, %d, not %d, %d", what, n, m, why, nodes, many)
	}
	if !rules.Valid(s) {
		t.Errorf("P22.6: %s: %v is not right", what, rules.Check(s))
	}
	if again, why := Slim(s); why != api.OK || !trees.Same(again, s) {
		t.Errorf("P22.7: %s: slimmed again: %v, %d", what, again, why)
	}
	if n, m, why := Saved(s); why != api.OK || n != 0 || m != 0 {
		t.Errorf("P22.7: %s: Saved of Slim = %d, %d, %d", what, n, m, why)
	}
}

// example is the chapter's first one.
func example(missing api.Side) api.Tree {
	return treeOf(numberOf(0, 2, left, 1, 2), numberOf(0, 3, missing, 3, 4), leafOf(30), leafOf(10), leafOf(20))
}

func TestExamples(t *testing.T) {
	isDead(t, "example 1", example(left), 4)
	isSlim(t, "example 1", example(left), treeOf(numberOf(0, 2, left, 1, 2), leafOf(10), leafOf(30)))
	isDead(t, "example 1, Missing right", example(right))
	isWitness(t, "example 1", example(right), 4, nan)
	isWitness(t, "example 1", example(right), 3, -endless)
	isWitness(t, "example 1", example(right), 2, next(2))
	isSlim(t, "example 1, Missing right", example(right), below(2, left, below(3, right, leaf(10), leaf(20)), leaf(30)))

	cats := func(missing api.Side) api.Tree {
		return within(left, below(3, missing, leaf(1), leaf(2)), leaf(3), 4)
	}
	isDead(t, "example 2", cats(left))
	isWitness(t, "example 2", cats(left), 2, nan)
	isWitness(t, "example 2", cats(left), 3, 4)
	isDead(t, "example 2, Missing right", cats(right), 2)
	isSlim(t, "example 2, Missing right", cats(right), within(left, leaf(2), leaf(3), 4))
	behind := within(left, leaf(1), below(prev(4), left, leaf(2), below(4, left, leaf(3), leaf(4))), 4)
	isDead(t, "example 2, behind its right", behind, 5)
	isSlim(t, "example 2, behind its right", behind, within(left, leaf(1), below(prev(4), left, leaf(2), leaf(4)), 4))

	five := below(7, left, leaf(5), leaf(5))
	isSlim(t, "example 3", five, leaf(5))
	e, want := ensemble(1, five), ensemble(1)
	e.Base[0], want.Base[0] = 1, 6
	isSlimmed(t, "example 3", e, want, 3, 1)
}

// Thresholds at the ends of the numbers.
func TestEnds(t *testing.T) {
	two := func(v float64, missing api.Side) api.Tree { return below(v, missing, leaf(1), leaf(2)) }
	isDead(t, "nothing is above inf", two(endless, left), 2)
	isSlim(t, "nothing is above inf", two(endless, left), leaf(1))
	isDead(t, "NaN alone goes right of inf", two(endless, right))
	isWitness(t, "NaN alone goes right of inf", two(endless, right), 2, nan)
	isWitness(t, "inf", two(endless, right), 1, -endless)
	isDead(t, "-inf is at most -inf", two(-endless, right))
	isWitness(t, "-inf is at most -inf", two(-endless, right), 1, -endless)
	isWitness(t, "behind -inf", two(-endless, right), 2, -math.MaxFloat64)
	isWitness(t, "inf alone", two(math.MaxFloat64, left), 2, endless)
	isWitness(t, "behind the least", two(-5e-324, left), 2, 0)
	isWitness(t, "behind nought", two(0, left), 2, 5e-324)
	isWitness(t, "behind nought", two(minus0, left), 2, 5e-324)

	// -inf alone, then nothing.
	twice := below(-endless, right, below(-endless, left, leaf(1), leaf(2)), leaf(3))
	isDead(t, "behind -inf twice", twice, 3)
	isSlim(t, "behind -inf twice", twice, below(-endless, right, leaf(1), leaf(3)))
	twice = below(-endless, left, below(-endless, right, leaf(1), leaf(2)), leaf(3))
	isDead(t, "NaN is not at most -inf", twice)
	isWitness(t, "NaN is not at most -inf", twice, 3, nan)
	most := below(math.MaxFloat64, left, leaf(1), below(endless, left, leaf(2), leaf(3)))
	isDead(t, "inf is at most inf", most, 4)
	isWitness(t, "inf is at most inf", most, 3, endless)
	below3 := below(endless, right, leaf(1), below(5, left, leaf(2), leaf(3)))
	isDead(t, "NaN alone goes on", below3, 4)
	isWitness(t, "NaN alone goes on", below3, 3, nan)
	isSlim(t, "NaN alone goes on", below3, below(endless, right, leaf(1), leaf(2)))
}

// Noughts are one number, but a threshold keeps its bits.
func TestNoughts(t *testing.T) {
	for _, a := range []float64{0, minus0} {
		for _, b := range []float64{0, minus0} {
			g := below(a, left, leaf(1), below(b, right, leaf(2), leaf(3)))
			isDead(t, "a nought again, to the right", g, 3)
			isSlim(t, "a nought again, to the right", g, below(a, left, leaf(1), leaf(3)))
			g = below(a, right, below(b, left, leaf(1), leaf(2)), leaf(3))
			isDead(t, "a nought again, to the left", g, 3)
			g = below(a, left, leaf(1), below(next(b), left, leaf(2), leaf(3)))
			isDead(t, "next to nought", g)
			isWitness(t, "next to nought", g, 3, 5e-324)
			isWitness(t, "behind next to nought", g, 4, 1e-323)
			g = below(prev(b), left, leaf(1), below(a, left, leaf(2), leaf(3)))
			isWitness(t, "nought alone", g, 3, 0)
			isSlim(t, "noughts by their bits", below(1, left, below(a, left, leaf(1), leaf(2)), below(b, left, leaf(1), leaf(2))), below(1, left, below(a, left, leaf(1), leaf(2)), leaf(2)))
			s, _ := Tree(fork(numberOf(1, 1, left, 0, 0), below(a, left, leaf(1), leaf(2)), below(b, left, leaf(1), leaf(2))))
			if alike := math.Float64bits(a) == math.Float64bits(b); alike != (len(s.Nodes) == 3) {
				t.Errorf("P22.3: thresholds %v and %v: %v", a, b, s)
			}
		}
	}
	// 0 as a category is either nought.
	for _, v := range []float64{0, minus0} {
		g := below(v, left, within(left, leaf(1), leaf(2), 0), within(right, leaf(3), leaf(4), 0))
		isDead(t, "the category 0", g, 5)
		isWitness(t, "the category 0", g, 2, 0)
		g = below(prev(0), left, leaf(1), below(v, left, within(left, leaf(2), leaf(3), 0), leaf(4)))
		isDead(t, "nothing is nought but 0", g, 5)
	}
}

// Neighbouring thresholds, and one that is asked twice.
func TestNeighbours(t *testing.T) {
	for _, v := range []float64{0, 1, -1, 1e300, 5e-324, -5e-324, 3.5} {
		g := below(v, left, leaf(1), below(next(v), left, leaf(2), below(next(next(v)), left, leaf(3), leaf(4))))
		isDead(t, "neighbours", g)
		isWitness(t, "neighbours", g, 3, next(v)+0)
		isWitness(t, "neighbours", g, 5, next(next(v))+0)
		g = below(next(v), left, below(v, left, leaf(1), leaf(2)), leaf(3))
		isWitness(t, "neighbours from above", g, 3, next(v)+0)
		for _, one := range []api.Side{left, right} {
			for _, other := range []api.Side{left, right} {
				g = below(v, one, below(v, other, leaf(1), leaf(2)), below(v, other, leaf(3), leaf(4)))
				var dead []int
				if one == right || other == left { // NaN alone could come to node 3
					dead = append(dead, 3)
				}
				if one == left || other == right {
					dead = append(dead, 5)
				}
				isDead(t, "the same threshold twice", g, dead...)
				if !slices.Contains(dead, 3) {
					isWitness(t, "the same threshold twice", g, 3, nan)
				}
				if !slices.Contains(dead, 5) {
					isWitness(t, "the same threshold twice", g, 5, nan)
				}
			}
		}
		g = below(next(v), left, leaf(1), below(v, left, leaf(2), leaf(3)))
		isDead(t, "a lesser one to the right", g, 3)
		g = below(next(v), right, leaf(1), below(v, left, leaf(2), leaf(3)))
		isWitness(t, "a lesser one to the right, but for NaN", g, 3, nan)
	}
}

// Categories below, above and at thresholds; categories twice; numbers that are none.
func TestCategories(t *testing.T) {
	l, r := within(left, leaf(1), leaf(2), 2, 5), within(right, leaf(3), leaf(4), 2, 5)
	g := below(1.5, left, l, r) // NaN goes left
	isDead(t, "categories above a threshold", g)
	isWitness(t, "categories above a threshold", g, 2, nan)
	isWitness(t, "no category", g, 3, -endless)
	isWitness(t, "the least category", g, 5, 2)
	isWitness(t, "behind a threshold", g, 6, next(1.5))
	g = below(2, left, r, l)
	isWitness(t, "at a threshold", g, 2, 2)
	isWitness(t, "above a threshold", g, 5, 5)
	isWitness(t, "no category", g, 6, next(2))
	g = below(next(2), left, leaf(0), r)
	isWitness(t, "a category further on", g, 3, 5)
	g = below(5, left, leaf(0), r)
	isDead(t, "no category is left", g, 3)
	isSlim(t, "no category is left", g, below(5, left, leaf(0), leaf(4)))
	g = below(1, right, r, leaf(0))
	isDead(t, "all categories above", g, 2)
	g = below(2, right, below(prev(2), right, leaf(0), r), leaf(9))
	isDead(t, "a category alone", g, 5)
	isWitness(t, "a category alone", g, 4, 2)

	twice := within(left, within(right, leaf(1), leaf(2), 2, 7), within(right, leaf(3), leaf(4), 5, 6), 2, 5)
	isDead(t, "categories twice", twice)
	isWitness(t, "in both", twice, 2, 2)
	isWitness(t, "in the first alone", twice, 3, 5)
	isWitness(t, "in the second alone", twice, 5, 6)
	isWitness(t, "in none", twice, 6, -endless)
	same := within(left, within(left, leaf(1), leaf(2), 2, 5), within(right, leaf(3), leaf(4), 2), 2, 5)
	isDead(t, "the same categories twice", same, 3, 5)
	isSlim(t, "the same categories twice", same, within(left, leaf(1), leaf(4), 2, 5))
	other := within(left, within(right, leaf(1), leaf(2), 3), leaf(3), 2, 5)
	isDead(t, "other categories", other, 2)
	isWitness(t, "other categories", other, 3, 2)
	other = within(left, within(left, leaf(1), leaf(2), 3), leaf(3), 2, 5)
	isWitness(t, "other categories, NaN", other, 2, nan)
	thrice := within(right, leaf(0), within(right, leaf(0), within(left, leaf(1), leaf(2), 1, 2, 3), 2), 1)
	isWitness(t, "what is left of categories", thrice, 5, 3)

	// Between two categories there are numbers; at one there is but it.
	g = below(3, right, below(2, right, leaf(0), within(left, leaf(1), leaf(2), 3)), leaf(9))
	isWitness(t, "a fraction", g, 5, next(2))
	isWitness(t, "the category above it", g, 4, 3)
	g = below(next(2), right, below(2, right, leaf(0), within(left, leaf(1), leaf(2), 2, 3)), leaf(9))
	isDead(t, "a fraction is no category", g, 4)
	g = within(left, leaf(0), below(0, left, below(prev(0), left, leaf(1), leaf(2)), leaf(3)), 0)
	isDead(t, "0 went left", g, 5)
	isWitness(t, "behind 0", g, 6, 5e-324)
	g = within(left, leaf(0), below(1, left, leaf(1), below(2, left, leaf(2), leaf(3))), 1, 2)
	isWitness(t, "behind a category", g, 5, next(1))
	g = below(prev(7), left, leaf(0), within(left, leaf(1), leaf(2), 7))
	isWitness(t, "from a category on", g, 4, next(7))
	g = below(prev(1023), left, leaf(0), below(1023, left, within(right, leaf(1), leaf(2), 1023), within(right, leaf(3), leaf(4), 1023)))
	isDead(t, "the last category", g, 5, 7)
	isWitness(t, "the last category", g, 4, 1023)
	isWitness(t, "behind the last category", g, 8, next(1023))
	g = below(prev(1024), left, leaf(0), within(right, leaf(1), leaf(2), 0, 1023))
	isDead(t, "behind all categories", g, 3)
	isWitness(t, "behind all categories", g, 4, 1024)
	g = below(prev(-1), left, leaf(0), within(left, leaf(1), leaf(2), 0, 1))
	isWitness(t, "ahead of all categories", g, 4, -1)
	var all []int
	for c := range api.MaxCats {
		all = append(all, c)
	}
	g = below(prev(63), right, leaf(0), within(right, below(64, right, leaf(1), leaf(2)), leaf(3), all...))
	isWitness(t, "of all categories", g, 4, 63)
	isWitness(t, "of all categories", g, 5, 65)
	isWitness(t, "of no category", g, 6, next(63))
}

// Features have nothing to do with one another; what no node above asks for is 0.
func TestFeatures(t *testing.T) {
	g := fork(numberOf(2, 1, left, 0, 0), fork(numberOf(0, 1, left, 0, 0), leaf(1), fork(numberOf(2, 1, right, 0, 0), leaf(2), leaf(3))), fork(catsOf(4, left, 0, 0, 3), leaf(4), leaf(5)))
	isDead(t, "features", g)
	isWitness(t, "the root", g, 0, 0, 0, 0, 0, 0)
	isWitness(t, "one feature", g, 1, 0, 0, -endless, 0, 0, 0)
	isWitness(t, "two features", g, 2, -endless, 0, -endless, 0, 0)
	isWitness(t, "a feature again", g, 4, next(1), 0, -endless, 0, 0)
	isWitness(t, "a feature again, NaN", g, 5, next(1), 0, nan, 0, 0)
	isWitness(t, "a category", g, 7, 0, 0, next(1), 0, 3)
	isWitness(t, "no category", g, 8, 0, 0, next(1), 0, -endless)
	g.Nodes[3].Missing = left
	isDead(t, "a feature again, nothing", g, 5)
	// Taken back: what one side lets through says nothing of the other.
	g = fork(numberOf(0, 1, left, 0, 0), fork(numberOf(1, 5, left, 0, 0), leaf(1), leaf(2)), fork(numberOf(1, 7, left, 0, 0), fork(numberOf(0, 2, left, 0, 0), leaf(3), leaf(4)), leaf(5)))
	isDead(t, "taken back", g)
	isSlim(t, "taken back", g, g)
	one := fork(numberOf(1, 5, left, 0, 0), leaf(1), leaf(2))
	g = fork(numberOf(0, 1, left, 0, 0), one, one)
	isSlim(t, "one question", g, one)
	for _, d := range []int{2, 3, api.MaxFeatures} {
		x, why := Witness(g, 1, d)
		if why != api.OK || len(x) != d || x[0] != -endless || slices.ContainsFunc(x[1:], func(v float64) bool { return v != 0 }) {
			t.Errorf("P22.2: %d numbers: %d, %d", d, len(x), why)
		}
	}
	last := fork(numberOf(api.MaxFeatures-1, 3, right, 0, 0), leaf(1), leaf(2))
	if x, why := Witness(last, 2, api.MaxFeatures); why != api.OK || x[api.MaxFeatures-1] != next(3) {
		t.Errorf("P22.2: the last feature: %d", why)
	}
	isDead(t, "the last feature", last)
}

func TestSlimTrees(t *testing.T) {
	two := func(a, b int64) api.Tree { return fork(numberOf(1, 4, left, 0, 0), leaf(a), leaf(b)) }
	isSlim(t, "a leaf", leaf(7), leaf(7))
	isSlim(t, "alike at once", below(1, left, two(1, 2), two(1, 2)), two(1, 2))
	isSlim(t, "not alike", below(1, left, two(1, 2), two(1, 3)), below(1, left, two(1, 2), two(1, 3)))
	isSlim(t, "alike once slimmed", below(1, left, below(3, left, two(1, 2), leaf(9)), below(1, right, leaf(8), two(1, 2))), two(1, 2))
	isSlim(t, "alike once both sides are one", below(1, left, fork(numberOf(1, 4, left, 0, 0), leaf(5), leaf(5)), leaf(5)), leaf(5))
	isSlim(t, "not alike for a Missing", below(1, left, two(1, 2), fork(numberOf(1, 4, right, 0, 0), leaf(1), leaf(2))), below(1, left, two(1, 2), fork(numberOf(1, 4, right, 0, 0), leaf(1), leaf(2))))
	isSlim(t, "not alike for a kind", below(1, left, two(1, 2), fork(catsOf(1, left, 0, 0, 4), leaf(1), leaf(2))), below(1, left, two(1, 2), fork(catsOf(1, left, 0, 0, 4), leaf(1), leaf(2))))
	cats := func(l ...int) api.Tree { return fork(catsOf(1, left, 0, 0, l...), leaf(1), leaf(2)) }
	isSlim(t, "alike categories", below(1, left, cats(3, 4), cats(3, 4)), cats(3, 4))
	isSlim(t, "other categories", below(1, left, cats(3, 4), cats(3, 5)), below(1, left, cats(3, 4), cats(3, 5)))
	isSlim(t, "another feature", below(1, left, two(1, 2), fork(numberOf(2, 4, left, 0, 0), leaf(1), leaf(2))), below(1, left, two(1, 2), fork(numberOf(2, 4, left, 0, 0), leaf(1), leaf(2))))
	// Numbered otherwise, they are alike all the same.
	anew := treeOf(numberOf(0, 1, left, 4, 1), numberOf(1, 4, left, 6, 5), leafOf(1), leafOf(2), numberOf(1, 4, left, 2, 3), leafOf(2), leafOf(1))
	isSlim(t, "alike once numbered anew", anew, two(1, 2))
	anew = treeOf(numberOf(0, 1, left, 2, 1), leafOf(5), numberOf(1, 4, left, 4, 3), leafOf(1), leafOf(2))
	isSlim(t, "numbered anew", anew, below(1, left, fork(numberOf(1, 4, left, 0, 0), leaf(2), leaf(1)), leaf(5)))
	// The same nodes in another shape are not alike.
	c := fork(numberOf(1, 4, left, 0, 0), fork(numberOf(2, 4, left, 0, 0), leaf(1), leaf(2)), leaf(3))
	d := fork(numberOf(1, 4, left, 0, 0), leaf(1), fork(numberOf(2, 4, left, 0, 0), leaf(2), leaf(3)))
	isSlim(t, "the same nodes in another shape", below(1, left, c, d), below(1, left, c, d))
}

// Output is kept, whatever it says.
func TestOutput(t *testing.T) {
	for _, output := range []int{0, 1, 63, -1, math.MinInt, math.MaxInt} {
		for _, g := range []api.Tree{leaf(3), example(left), example(right), below(1, left, leaf(5), leaf(5))} {
			g.Output = output
			if s, why := Tree(g); why != api.OK || s.Output != output {
				t.Errorf("P22.3: output %d of %v: %d", s.Output, g, why)
			}
		}
	}
}

func TestOneValue(t *testing.T) {
	r := source()
	for range 500 {
		g := someTree(r, 1+r.IntN(40), 3)
		for i := range g.Nodes {
			if g.Nodes[i].Kind == api.NodeLeaf {
				g.Nodes[i].Value = -17
			}
		}
		want := leaf(-17)
		want.Output = g.Output
		isSlim(t, "P22.9", g, want)
	}
}

func TestEnsembles(t *testing.T) {
	e := ensemble(1)
	isSlimmed(t, "no trees", e, e, 0, 0)
	e = ensemble(1, leaf(5), leaf(-7), below(1, left, leaf(2), leaf(2)), example(left), below(endless, left, leaf(4), leaf(5)))
	want := ensemble(1, below(2, left, leaf(10), leaf(30)))
	want.Base[0] = 100 + 5 - 7 + 2 + 4
	isSlimmed(t, "some go", e, want, 1+1+3+2+3, 4)
	e = ensemble(1, leaf(5), below(1, left, leaf(2), leaf(2)))
	want = ensemble(1)
	want.Base[0] = 107
	isSlimmed(t, "all go", e, want, 4, 2)
	e = ensemble(1, example(right), example(right))
	isSlimmed(t, "none goes", e, model(e), 0, 0)

	e = ensemble(2, leaf(5), leaf(6), example(left), leaf(7))
	e.Outputs, e.Base = 3, []int64{1, 2, 3}
	for i, output := range []int{2, 0, 1, 2} {
		e.Trees[i].Output = output
	}
	want = ensemble(2, below(2, left, leaf(10), leaf(30)))
	want.Outputs, want.Base = 3, []int64{7, 2, 15}
	want.Trees[0].Output = 1
	isSlimmed(t, "outputs", e, want, 5, 3)

	// Base at the edge of what there is room for.
	for _, sign := range []int64{1, -1} {
		e = ensemble(1, leaf(sign*5), below(1, left, leaf(sign*6), leaf(sign*6)))
		e.Base[0] = sign * (api.MaxSum - 12)
		want = ensemble(1)
		want.Base[0] = sign * (api.MaxSum - 1)
		isSlimmed(t, "as much as there is room for", e, want, 4, 2)
		e.Base[0] += sign
		refused(t, "more than there is room for", e)
	}
	e = ensemble(1, leaf(api.MaxSum-1))
	e.Base[0] = 0
	want = ensemble(1)
	want.Base[0] = api.MaxSum - 1
	isSlimmed(t, "one great leaf", e, want, 1, 1)
}

// model is an ensemble whose nodes are numbered from the root on.
func model(e api.Ensemble) api.Ensemble {
	m, _ := trees.Model(e)
	return m
}

// refused holds an ensemble not to be right.
func refused(t *testing.T, what string, e api.Ensemble) {
	t.Helper()
	s, why := Slim(e)
	if why != api.ErrModel {
		t.Errorf("P22.4: Slim: %s: %d", what, why)
	}
	n, m, no := Saved(e)
	if no != api.ErrModel {
		t.Errorf("P22.4: Saved: %s: %d", what, no)
	}
	if !reflect.DeepEqual(s, api.Ensemble{}) || n != 0 || m != 0 {
		t.Errorf("P2: %s: %v, %d, %d beside an error", what, s, n, m)
	}
}

func TestWrongEnsembles(t *testing.T) {
	for what, spoil := range map[string]func(e *api.Ensemble){
		"a name":           func(e *api.Ensemble) { e.Name = "" },
		"no features":      func(e *api.Ensemble) { e.Features = nil },
		"a feature's name": func(e *api.Ensemble) { e.Features[0] = "a b" },
		"a name twice":     func(e *api.Ensemble) { e.Features = []string{"a", "a"} },
		"outputs":          func(e *api.Ensemble) { e.Outputs = 0 },
		"Base":             func(e *api.Ensemble) { e.Base = nil },
		"too many trees":   func(e *api.Ensemble) { e.Trees = slices.Repeat([]api.Tree{leaf(0)}, api.MaxTrees+1) },
		"an output":        func(e *api.Ensemble) { e.Trees[0].Output = 1 },
		"no nodes":         func(e *api.Ensemble) { e.Trees[0].Nodes = nil },
		"too many nodes":   func(e *api.Ensemble) { e.Trees[0] = chain(api.MaxLeaves+1, left) },
		"a feature":        func(e *api.Ensemble) { e.Trees[0].Nodes[0].Feature = 1 },
		"a dead feature":   func(e *api.Ensemble) { e.Trees[0].Nodes[1].Feature = 1 },
		"a threshold":      func(e *api.Ensemble) { e.Trees[0].Nodes[0].Threshold = nan },
		"no tree":          func(e *api.Ensemble) { e.Trees[0].Nodes[0].Right = 1 },
		"the room":         func(e *api.Ensemble) { e.Base[0] = api.MaxSum },
		"a dead great leaf": func(e *api.Ensemble) { // no vector comes to it, but the rules count it
			e.Trees[0].Nodes[4].Value = api.MaxSum
		},
	} {
		e := ensemble(1, example(left))
		isSlimmed(t, "ahead of "+what, e, ensemble(1, below(2, left, leaf(10), leaf(30))), 2, 0)
		spoil(&e)
		refused(t, what, e)
	}
	refused(t, "nothing", api.Ensemble{})
}

// chain is a tree with so many leaves that leans all to one side.
func chain(leaves int, side api.Side) api.Tree {
	var l []api.Node
	for i := range leaves - 1 {
		n := numberOf(0, float64(i), right, 2*i+1, 2*i+2)
		if side == left {
			n = numberOf(0, float64(-i), left, 2*i+2, 2*i+1)
		}
		l = append(l, n, leafOf(int64(i)))
	}
	return treeOf(append(l, leafOf(-1))...)
}

// wrongTree holds all that take a tree to its error.
func wrongTree(t *testing.T, what string, g api.Tree, want api.Errno) {
	t.Helper()
	l, why := Dead(g)
	if why != want {
		t.Errorf("P22.1: Dead: %s: %d, not %d", what, why, want)
	}
	s, no := Tree(g)
	if no != want {
		t.Errorf("P22.3: Tree: %s: %d, not %d", what, no, want)
	}
	if l != nil || !reflect.DeepEqual(s, api.Tree{}) {
		t.Errorf("P2: %s: %v, %v beside an error", what, l, s)
	}
	for _, node := range []int{0, 1, -1, len(g.Nodes), math.MaxInt, math.MinInt} { // whatever else is wrong
		for _, d := range []int{0, 1, 9, -1, api.MaxFeatures + 1, math.MinInt} {
			noWitness(t, what, g, node, d, want)
		}
	}
}

func TestWrongTrees(t *testing.T) {
	for what, c := range map[string]struct {
		want  api.Errno
		spoil func(g *api.Tree)
	}{
		"no nodes":         {api.ErrShape, func(g *api.Tree) { g.Nodes = nil }},
		"a kind":           {api.ErrSplit, func(g *api.Tree) { g.Nodes[4].Kind = 0 }},
		"another kind":     {api.ErrSplit, func(g *api.Tree) { g.Nodes[4].Kind = 4 }},
		"a leaf's feature": {api.ErrSplit, func(g *api.Tree) { g.Nodes[4].Feature = 1 }},
		"a threshold":      {api.ErrSplit, func(g *api.Tree) { g.Nodes[1].Threshold = nan }},
		"Missing":          {api.ErrSplit, func(g *api.Tree) { g.Nodes[1].Missing = 0 }},
		"a feature":        {api.ErrSplit, func(g *api.Tree) { g.Nodes[1].Feature = api.MaxFeatures }},
		"a feature below":  {api.ErrSplit, func(g *api.Tree) { g.Nodes[1].Feature = -1 }},
		"categories":       {api.ErrSplit, func(g *api.Tree) { g.Nodes[1] = catsOf(0, left, 3, 4, 3, 3) }},
		"a category":       {api.ErrSplit, func(g *api.Tree) { g.Nodes[1] = catsOf(0, left, 3, 4, 1024) }},
		"a category below": {api.ErrSplit, func(g *api.Tree) { g.Nodes[1] = catsOf(0, left, 3, 4, -1) }},
		"no categories":    {api.ErrSplit, func(g *api.Tree) { g.Nodes[1] = catsOf(0, left, 3, 4) }},
		"Left far":         {api.ErrSplit, func(g *api.Tree) { g.Nodes[1].Left = 5 }},
		"Left below":       {api.ErrSplit, func(g *api.Tree) { g.Nodes[1].Left = -1 }},
		"Left the root":    {api.ErrSplit, func(g *api.Tree) { g.Nodes[1].Left = 0 }},
		"a node twice":     {api.ErrShape, func(g *api.Tree) { g.Nodes[1].Left = 2 }},
		"a loose node":     {api.ErrShape, func(g *api.Tree) { g.Nodes = append(g.Nodes, leafOf(1)) }},
		"a ring":           {api.ErrShape, func(g *api.Tree) { g.Nodes[0], g.Nodes[1].Left = leafOf(1), 2; g.Nodes[2] = numberOf(0, 1, left, 1, 3) }},
		"a kind, and a loose node": {api.ErrSplit, func(g *api.Tree) {
			g.Nodes[4].Kind = 0
			g.Nodes = append(g.Nodes, leafOf(1))
		}},
	} {
		g := example(left)
		c.spoil(&g)
		wrongTree(t, what, g, c.want)
	}
	for _, side := range []api.Side{left, right} {
		wrongTree(t, "a leaf too many", chain(api.MaxLeaves+1, side), api.ErrMany)
		wrongTree(t, "a deep tree", chain(1<<17, side), api.ErrMany)
		g := chain(api.MaxLeaves+1, side)
		g.Nodes[len(g.Nodes)-1].Missing = left
		wrongTree(t, "a leaf too many, and a node", g, api.ErrSplit)
	}
}

func TestMostLeaves(t *testing.T) {
	for _, side := range []api.Side{left, right} {
		g := chain(api.MaxLeaves, side)
		if l, why := Dead(g); why != api.OK || len(l) != 0 {
			t.Errorf("P22.1: MaxLeaves: %v, %d", l, why)
		}
		c, _ := trees.Canon(g)
		isSlim(t, "MaxLeaves", g, c)
		deep := len(g.Nodes) - 1
		x, why := Witness(g, deep, 1)
		if way, _ := trees.Way(g, x); why != api.OK || !slices.Contains(way, deep) {
			t.Errorf("P22.8: MaxLeaves: %v, %d", x, why)
		}
		isSlimmed(t, "MaxLeaves", ensemble(1, g), ensemble(1, c), 0, 0)
		// Each threshold below the one ahead: all that hangs on these is dead.
		for i := range g.Nodes {
			g.Nodes[i].Threshold = -g.Nodes[i].Threshold + 0
		}
		want := below(0, right, leaf(0), leaf(-1))
		many := api.MaxLeaves - 2
		if side == left {
			want = below(0, left, leaf(-1), leaf(0))
		}
		if l, _ := Dead(g); len(l) != many {
			t.Errorf("P22.1: a chain of dead leaves: %d", len(l))
		}
		isSlim(t, "a chain of dead leaves", g, want)
	}
	full := bush(12, 0)
	if len(full.Nodes) != 2*api.MaxLeaves-1 {
		t.Fatal(len(full.Nodes))
	}
	isSlim(t, "a full tree", full, full)
	isSlim(t, "a full tree whose sides are alike", bush(12, 12), leaf(0))
	isSlim(t, "a full tree whose sides are alike below", bush(12, 7), bush(5, 0))
}

// bush is a full tree so many nodes deep, each depth with a feature of its own; the lowest of these do not matter.
func bush(deep, idle int) api.Tree {
	var grow func(feature int, number int64) api.Tree
	grow = func(feature int, number int64) api.Tree {
		if feature == deep {
			return leaf(number)
		}
		second := 2*number + 1
		if feature >= deep-idle {
			return fork(numberOf(feature, 1, left, 0, 0), grow(feature+1, number), grow(feature+1, number))
		}
		return fork(numberOf(feature, 1, left, 0, 0), grow(feature+1, 2*number), grow(feature+1, second))
	}
	return grow(0, 0)
}

func TestWitnessErrors(t *testing.T) {
	g := fork(numberOf(0, 2, left, 0, 0), fork(numberOf(3, 2, left, 0, 0), leaf(1), leaf(2)), fork(numberOf(0, 1, left, 0, 0), leaf(3), leaf(4)))
	isDead(t, "the tree itself", g, 5)
	for _, node := range []int{-1, 7, 8, math.MinInt, math.MaxInt} {
		noWitness(t, "no such node", g, node, 4, api.ErrRange)
		noWitness(t, "no such node, and a short vector", g, node, 0, api.ErrRange)
		noWitness(t, "no such node, and no such vector", g, node, -1, api.ErrRange)
		noWitness(t, "no such node of a leaf", leaf(1), node, 0, api.ErrRange)
	}
	for _, d := range []int{-1, api.MaxFeatures + 1, math.MinInt, math.MaxInt} {
		noWitness(t, "no such vector", g, 0, d, api.ErrRange)
		noWitness(t, "no such vector, and a dead node", g, 5, d, api.ErrRange)
	}
	for d := range 4 { // wherever the feature is asked for
		for node := range g.Nodes {
			noWitness(t, "a short vector", g, node, d, api.ErrVector)
		}
	}
	noWitness(t, "a dead node", g, 5, 4, api.ErrDead)
	noWitness(t, "a dead node", g, 5, api.MaxFeatures, api.ErrDead)
	isWitness(t, "the last node", g, 6, next(2), 0, 0, 0)
	isWitness(t, "the first node", g, 0, 0, 0, 0, 0)
	isWitness(t, "a leaf, no numbers", leaf(1), 0)
	if x, why := Witness(leaf(1), 0, api.MaxFeatures); why != api.OK || len(x) != api.MaxFeatures {
		t.Errorf("P22.2: MaxFeatures numbers: %d, %d", len(x), why)
	}
	noWitness(t, "a dead node, a short vector", below(2, left, leaf(1), below(2, right, leaf(2), leaf(3))), 3, 0, api.ErrVector)
	if order.Key(-endless) != 0 {
		t.Error("the least key")
	}
}

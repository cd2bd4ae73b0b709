package explain

import (
	"fmt"
	"math"
	"math/big"
	"math/rand/v2"
	"slices"
	"strconv"
	"strings"
	"testing"

	"thicket/api"
	"thicket/fixed"
	"thicket/floats"
	"thicket/limbs"
	"thicket/trees"
)

// A second opinion, from the chapter's words, in quotients of the library.

func ratOf(t *testing.T, r api.Ratio) *big.Rat {
	t.Helper()
	s, why := limbs.Write(r)
	q, ok := new(big.Rat).SetString(s)
	if why != api.OK || !ok || !isRightRatio(r) {
		t.Fatalf("not a right ratio: %v", r)
	}
	return q
}

func ratsOf(t *testing.T, l []api.Ratio) []*big.Rat {
	t.Helper()
	var out []*big.Rat
	for _, r := range l {
		out = append(out, ratOf(t, r))
	}
	return out
}

func sumOf(l ...*big.Rat) *big.Rat {
	sum := new(big.Rat)
	for _, q := range l {
		sum.Add(sum, q)
	}
	return sum
}

func areSame(a, b []*big.Rat) bool {
	return slices.EqualFunc(a, b, func(x, y *big.Rat) bool { return x.Cmp(y) == 0 })
}

// valueByWords is the average of the scores of the mixed vectors.
func valueByWords(e api.Ensemble, output int, x []float64, back [][]float64, set []int) *big.Rat {
	sum := new(big.Rat)
	for _, b := range back {
		m := slices.Clone(b)
		for _, f := range set {
			m[f] = x[f]
		}
		s, why := trees.Score(e, m)
		if why != api.OK {
			panic(why)
		}
		sum.Add(sum, new(big.Rat).SetInt64(s[output]))
	}
	return sum.Quo(sum, new(big.Rat).SetInt64(int64(len(back))))
}

func playersByWords(e api.Ensemble) []int {
	var l []int
	for _, g := range e.Trees {
		inner, _ := trees.Inner(g)
		for _, i := range inner {
			l = append(l, g.Nodes[i].Feature)
		}
	}
	slices.Sort(l)
	return slices.Compact(l)
}

// shapleyByWords goes through all sets of the other players.
func shapleyByWords(e api.Ensemble, output int, x []float64, back [][]float64) []*big.Rat {
	players := playersByWords(e)
	values := make([]*big.Rat, 1<<len(players))
	for s := range values {
		var set []int
		for i, f := range players {
			if s>>i&1 == 1 {
				set = append(set, f)
			}
		}
		values[s] = valueByWords(e, output, x, back, set)
	}
	p := int64(len(players))
	shares := make([]*big.Rat, len(x))
	for f := range shares {
		shares[f] = new(big.Rat)
	}
	for i, f := range players {
		for s := range values {
			if s>>i&1 == 1 {
				continue
			}
			many := int64(strings.Count(strconv.FormatInt(int64(s), 2), "1"))
			part := new(big.Rat).SetFrac(new(big.Int).Mul(new(big.Int).MulRange(1, many), new(big.Int).MulRange(1, p-many-1)), new(big.Int).MulRange(1, p))
			shares[f].Add(shares[f], part.Mul(part, new(big.Rat).Sub(values[s|1<<i], values[s])))
		}
	}
	return shares
}

// expectedByWords is the average of the leaves below a node.
func expectedByWords(nodes []api.Node, i int) *big.Rat {
	sum, many := new(big.Rat), int64(0)
	for wait := []int{i}; len(wait) > 0; {
		n := nodes[wait[0]]
		wait = wait[1:]
		if n.Kind == api.NodeLeaf {
			sum, many = sumOf(sum, new(big.Rat).SetInt64(n.Value)), many+1
		} else {
			wait = append(wait, n.Right, n.Left)
		}
	}
	return sum.Quo(sum, new(big.Rat).SetInt64(many))
}

func stepsByWords(e api.Ensemble, output int, x []float64) (*big.Rat, []*big.Rat) {
	first := new(big.Rat).SetInt64(e.Base[output])
	shares := make([]*big.Rat, len(x))
	for f := range shares {
		shares[f] = new(big.Rat)
	}
	for _, g := range e.Trees {
		if g.Output != output {
			continue
		}
		first.Add(first, expectedByWords(g.Nodes, 0))
		way, _ := trees.Way(g, x)
		for at := range len(way) - 1 {
			share := shares[g.Nodes[way[at]].Feature]
			share.Add(share, expectedByWords(g.Nodes, way[at+1]))
			share.Sub(share, expectedByWords(g.Nodes, way[at]))
		}
	}
	return first, shares
}

func reasonByWords(e api.Ensemble, g api.Tree, x []float64) string {
	s := ""
	way, _ := trees.Way(g, x)
	for at, i := range way {
		n := g.Nodes[i]
		if n.Kind == api.NodeLeaf {
			break
		}
		if at > 0 {
			s += " and "
		}
		s += e.Features[n.Feature] + " "
		isLeft := way[at+1] == n.Left
		switch {
		case x[n.Feature] != x[n.Feature]:
			s += "is missing"
		case n.Kind == api.NodeNumber && isLeft:
			s += "<= " + floats.Shortest(n.Threshold)
		case n.Kind == api.NodeNumber:
			s += "> " + floats.Shortest(n.Threshold)
		default:
			s += map[bool]string{true: "in ", false: "not in "}[isLeft] + strings.Trim(strings.ReplaceAll(fmt.Sprint(n.Cats), " ", ","), "[]")
		}
	}
	if len(way) > 1 {
		s += " "
	}
	v := g.Nodes[way[len(way)-1]].Value
	return fmt.Sprintf("%s: output %d %s%s", s, g.Output, map[bool]string{true: "", false: "+"}[v < 0], fixed.Print(v))
}

func someNumber(r *rand.Rand) float64 {
	switch r.IntN(9) {
	case 0:
		return nan
	case 1:
		return math.Float64frombits(r.Uint64())
	}
	return []float64{0, minus0, 1, 2, 3, 0.5, 1.5, -1, endless, -endless}[r.IntN(10)]
}

func someVector(r *rand.Rand, features int) []float64 {
	x := make([]float64, features)
	for i := range x {
		x[i] = someNumber(r)
	}
	return x
}

// someTree is a right tree, with leaves of any size that there is room for.
func someTree(r *rand.Rand, inner, features, outputs int) api.Tree {
	value := func() api.Node {
		size := []int64{2, 100, api.Unit * 10, 1 << 58}[r.IntN(4)]
		return leafOf(r.Int64N(size) - r.Int64N(size))
	}
	nodes := []api.Node{value()}
	for range inner {
		i := r.IntN(len(nodes))
		for nodes[i].Kind != api.NodeLeaf {
			i = r.IntN(len(nodes))
		}
		n := api.Node{Kind: api.NodeNumber, Feature: r.IntN(features), Missing: api.Side(1 + r.IntN(2)), Left: len(nodes) + 1, Right: len(nodes)}
		for n.Threshold = someNumber(r); math.IsNaN(n.Threshold); {
			n.Threshold = someNumber(r)
		}
		if r.IntN(3) == 0 {
			n.Kind, n.Threshold, n.Cats = api.NodeCats, 0, [][]int{{0}, {1, 3}, {0, 2}, {1023}}[r.IntN(4)]
		}
		nodes[i] = n
		nodes = append(nodes, value(), value())
	}
	return api.Tree{Output: r.IntN(outputs), Nodes: nodes}
}

func someEnsemble(r *rand.Rand, many, features, outputs int) api.Ensemble {
	e := ensemble(features, outputs)
	for i := range e.Base {
		e.Base[i] = r.Int64N(20) - 10
	}
	for range many {
		e.Trees = append(e.Trees, someTree(r, r.IntN(8), features, outputs))
	}
	return e
}

func someBack(r *rand.Rand, x []float64) [][]float64 {
	var back [][]float64
	for range 1 + r.IntN(4) {
		b := someVector(r, len(x))
		for f := range b {
			if r.IntN(4) == 0 {
				b[f] = x[f]
			}
		}
		back = append(back, b)
	}
	return back
}

// isExplained holds all that is said of a vector to the words, and to what follows from them.
func isExplained(t *testing.T, e api.Ensemble, output int, x []float64, back [][]float64) {
	t.Helper()
	players := playersByWords(e)
	isPlayers(t, "some ensemble", e, players...)
	score, _ := trees.Score(e, x)
	whole := new(big.Rat).SetInt64(score[output])

	l, why := Shapley(e, output, x, back)
	shares, want := ratsOf(t, l), shapleyByWords(e, output, x, back)
	if why != api.OK || !areSame(shares, want) {
		t.Errorf("25.3: %v, %d, not %v", shares, why, want)
	}
	average := valueByWords(e, output, x, back, nil)
	if sum := sumOf(shares...); sum.Cmp(new(big.Rat).Sub(whole, average)) != 0 {
		t.Errorf("25.7: the shares add up to %v: the score is %v, the average %v", sum, whole, average)
	}
	for f, s := range shares {
		if !slices.Contains(players, f) && s.Sign() != 0 {
			t.Errorf("25.8: %d is not asked and has %v", f, s)
		}
	}
	alone, _ := Shapley(e, output, x, [][]float64{x, x})
	for _, s := range ratsOf(t, alone) {
		if s.Sign() != 0 {
			t.Errorf("25.8: against x alone: %v", s)
		}
	}
	first, l, why := Steps(e, output, x)
	wantFirst, want := stepsByWords(e, output, x)
	steps := ratsOf(t, l)
	if why != api.OK || ratOf(t, first).Cmp(wantFirst) != 0 || !areSame(steps, want) {
		t.Errorf("25.4: %v and %v, %d, not %v and %v", said(first), steps, why, wantFirst, want)
	}
	if sum := sumOf(append(steps, ratOf(t, first))...); sum.Cmp(whole) != 0 {
		t.Errorf("25.11: %v, not the score %v", sum, whole)
	}
	var lines []string
	for _, g := range e.Trees {
		lines = append(lines, reasonByWords(e, g, x))
	}
	isReasons(t, "some vector", e, x, lines...)
}

func TestSomeVectors(t *testing.T) {
	r := source()
	parted := 0
	for range 600 {
		features, outputs := 1+r.IntN(6), 1+r.IntN(3)
		e := someEnsemble(r, r.IntN(6), features, outputs)
		x := someVector(r, features)
		back := someBack(r, x)
		isExplained(t, e, r.IntN(outputs), x, back)
		for range 4 {
			var set []int
			for range r.IntN(2 * features) {
				set = append(set, r.IntN(features))
			}
			output := r.IntN(outputs)
			want := valueByWords(e, output, x, back, set)
			if v, why := Value(e, output, x, back, set); why != api.OK || ratOf(t, v).Cmp(want) != 0 {
				t.Errorf("25.2: of %v: %s, %d, not %v", set, said(v), why, want)
			}
			if want.Cmp(valueByWords(e, output, x, back, nil)) != 0 {
				parted++
			}
		}
		if t.Failed() {
			t.Fatal(e, x, back)
		}
	}
	if parted < 500 {
		t.Error("few of these sets have another value than the empty one:", parted)
	}
}

// As many players as may be, in trees that ask many of them.
func TestManyPlayers(t *testing.T) {
	r := source()
	for range 3 {
		e := someEnsemble(r, 0, api.MaxPlayers, 1)
		for range 4 {
			e.Trees = append(e.Trees, someTree(r, 60, api.MaxPlayers, 1))
		}
		x := someVector(r, api.MaxPlayers)
		isExplained(t, e, 0, x, someBack(r, x))
	}
	// A whole tree of ten questions: each set comes to a leaf of its own.
	var g api.Tree
	for i := range 1<<api.MaxPlayers - 1 {
		deep := len(strconv.FormatInt(int64(i+1), 2)) - 1
		g.Nodes = append(g.Nodes, api.Node{Kind: api.NodeNumber, Feature: deep, Missing: left, Left: 2*i + 1, Right: 2*i + 2})
	}
	for range 1 << api.MaxPlayers {
		g.Nodes = append(g.Nodes, leafOf(r.Int64N(1<<60)-r.Int64N(1<<60)))
	}
	e := ensemble(api.MaxPlayers, 1, g)
	isExplained(t, e, 0, slices.Repeat(at(1), api.MaxPlayers), all(make([]float64, api.MaxPlayers)))
	isExplained(t, e, 0, at(1, 0, 1, 0, 1, 0, 1, 0, 1, nan), all(at(0, 0, 1, 1, 1, 0, 0, 1, 0, 1), at(0, 1, 0, 1, 0, 1, 0, 1, 0, 1)))
}

// 25.9: an ensemble's values are those of its trees, one by one, added.
func TestTreesOneByOne(t *testing.T) {
	r := source()
	for range 200 {
		features := 1 + r.IntN(6)
		e := someEnsemble(r, 1+r.IntN(6), features, 2)
		x := someVector(r, features)
		back := someBack(r, x)
		for output := range 2 {
			l, _ := Shapley(e, output, x, back)
			whole := ratsOf(t, l)
			sum := slices.Repeat([]*big.Rat{new(big.Rat)}, features)
			for _, g := range e.Trees {
				one := trees.Copy(e)
				one.Trees, one.Base = []api.Tree{g}, []int64{5, -5}
				l, why := Shapley(one, output, x, back)
				if why != api.OK {
					t.Fatal("25.9:", why)
				}
				for f, s := range ratsOf(t, l) {
					sum[f] = sumOf(sum[f], s)
				}
			}
			if !areSame(whole, sum) {
				t.Fatalf("25.9: %v, not %v, of %v", whole, sum, e)
			}
		}
	}
}

// exchanged is an ensemble with two features the other way round.
func exchanged(e api.Ensemble, a, b int) api.Ensemble {
	e = trees.Copy(e)
	for _, g := range e.Trees {
		for i := range g.Nodes {
			n := &g.Nodes[i]
			switch {
			case n.Kind == api.NodeLeaf:
			case n.Feature == a:
				n.Feature = b
			case n.Feature == b:
				n.Feature = a
			}
		}
	}
	return e
}

// 25.10: two features that are asked alike and have the same numbers have the same values.
func TestAskedAlike(t *testing.T) {
	r := source()
	some := 0
	for range 300 {
		features := 2 + r.IntN(4)
		e := someEnsemble(r, 1+r.IntN(3), features, 1)
		a, b := 0, 1+r.IntN(features-1)
		e.Trees = append(e.Trees, exchanged(e, a, b).Trees...) // each tree, and the same with the two exchanged
		x := someVector(r, features)
		back := someBack(r, x)
		x[b] = x[a]
		for _, v := range back {
			v[b] = v[a]
		}
		l, why := Shapley(e, 0, x, back)
		if why != api.OK || said(l[a]) != said(l[b]) {
			t.Fatalf("25.10: %s and %s of %v", said(l[a]), said(l[b]), e)
		}
		if said(l[a]) != "0" {
			some++
		}
	}
	if some < 50 {
		t.Error("few of these have a share:", some)
	}
	// Two in one tree: both have to be above 0.
	both := api.Tree{Nodes: []api.Node{{Kind: api.NodeNumber, Missing: left, Left: 1, Right: 2}, leafOf(0), {Kind: api.NodeNumber, Feature: 1, Missing: left, Left: 3, Right: 4}, leafOf(0), leafOf(5)}}
	isShapley(t, "both", ensemble(2, 1, both), 0, at(1, 1), all(at(0, 0)), "5/2 5/2")
}

// The trees in another order, nodes numbered otherwise, vectors of the background in another order: the same shares.
func TestOrders(t *testing.T) {
	r := source()
	for range 100 {
		features := 1 + r.IntN(5)
		e := someEnsemble(r, 1+r.IntN(5), features, 1)
		x := someVector(r, features)
		back := someBack(r, x)
		other, _ := trees.Model(e)
		slices.Reverse(other.Trees)
		turned := slices.Clone(back)
		slices.Reverse(turned)
		a, _ := Shapley(e, 0, x, back)
		b, _ := Shapley(other, 0, x, turned)
		first, l, _ := Steps(e, 0, x)
		again, m, _ := Steps(other, 0, x)
		if said(a...) != said(b...) || said(first) != said(again) || said(l...) != said(m...) {
			t.Fatal("P3: another order is seen:", e)
		}
	}
}

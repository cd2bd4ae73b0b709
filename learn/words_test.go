package learn

import (
	"math"
	"math/big"
	"math/rand/v2"
	"slices"
	"strconv"
	"testing"

	"thicket/api"
	"thicket/limbs"
	"thicket/rules"
	"thicket/trees"
)

// A second opinion, from the chapter's words, in quotients of the library.

func ratOf(t *testing.T, r api.Ratio) *big.Rat {
	t.Helper()
	q, ok := new(big.Rat).SetString(said(r))
	if !ok {
		t.Fatalf("not a right ratio: %v", r)
	}
	return q
}

// parted is a split as the words have it: which rows go left and right, and what it gains.
type parted struct {
	feature   int
	threshold float64
	missing   api.Side
	lefts     []int
	rights    []int
	gain      *big.Rat
}

func pick[T any](l []T, rows []int) []T {
	var out []T
	for _, i := range rows {
		out = append(out, l[i])
	}
	return out
}

func totalOf(l []int64) *big.Int {
	sum := new(big.Int)
	for _, v := range l {
		sum.Add(sum, big.NewInt(v))
	}
	return sum
}

// squareByWords is s^2 / n.
func squareByWords(l []int64) *big.Rat {
	s := totalOf(l)
	return new(big.Rat).SetFrac(s.Mul(s, s), big.NewInt(int64(len(l))))
}

// splitsByWords are all splits that may be, the least feature, the least threshold, left first.
func splitsByWords(l [][]float64, rest []int64, least int) []parted {
	var all []parted
	for f := range l[0] {
		var thresholds []float64
		for _, x := range l {
			if x[f] == x[f] {
				thresholds = append(thresholds, x[f]+0) // a nought as 0
			}
		}
		slices.Sort(thresholds)
		for _, th := range slices.Compact(thresholds) {
			for _, side := range []api.Side{left, right} {
				p := parted{feature: f, threshold: th, missing: side}
				for row, x := range l {
					if x[f] <= th || x[f] != x[f] && side == left {
						p.lefts = append(p.lefts, row)
					} else {
						p.rights = append(p.rights, row)
					}
				}
				if len(p.lefts) < least || len(p.rights) < least {
					continue
				}
				p.gain = new(big.Rat).Add(squareByWords(pick(rest, p.lefts)), squareByWords(pick(rest, p.rights)))
				p.gain.Sub(p.gain, squareByWords(rest))
				all = append(all, p)
			}
		}
	}
	return all
}

// bestByWords is the first of those that gain most; false, if that is nothing.
func bestByWords(l [][]float64, rest []int64, least int) (parted, bool) {
	best, ok := parted{gain: new(big.Rat)}, false
	for _, p := range splitsByWords(l, rest, least) {
		if p.gain.Cmp(best.gain) > 0 {
			best, ok = p, true
		}
	}
	return best, ok
}

// roundedByWords is the nearest whole number, of two the even one.
func roundedByWords(q *big.Rat) int64 {
	double := new(big.Rat).Add(q, q)
	low := new(big.Int).Div(q.Num(), q.Denom()) // Euclid's: rounded down, as the divisor is above nought
	switch double.Cmp(new(big.Rat).SetInt(new(big.Int).Add(new(big.Int).Lsh(low, 1), big.NewInt(1)))) {
	case 0:
		return low.Int64() + int64(low.Bit(0))
	case 1:
		return low.Int64() + 1
	}
	return low.Int64()
}

// growByWords adds the nodes of the tree of rows.
func growByWords(nodes []api.Node, l [][]float64, rest []int64, p api.Lesson, deep int) []api.Node {
	if deep < p.Deep {
		if b, ok := bestByWords(l, rest, p.Least); ok {
			at := len(nodes)
			nodes = append(nodes, api.Node{Kind: api.NodeNumber, Feature: b.feature, Threshold: b.threshold, Missing: b.missing, Left: at + 1})
			nodes = growByWords(nodes, pick(l, b.lefts), pick(rest, b.lefts), p, deep+1)
			nodes[at].Right = len(nodes)
			return growByWords(nodes, pick(l, b.rights), pick(rest, b.rights), p, deep+1)
		}
	}
	q := new(big.Rat).SetFrac(totalOf(rest), big.NewInt(p.Den*int64(len(rest))))
	return append(nodes, leafOf(roundedByWords(q.Mul(q, new(big.Rat).SetInt64(p.Num)))))
}

// fitByWords asks trees.Score for what is left.
func fitByWords(l [][]float64, targets []int64, p api.Lesson) api.Ensemble {
	e := api.Ensemble{Name: "learned", Outputs: 1, Base: []int64{roundedByWords(new(big.Rat).SetFrac(totalOf(targets), big.NewInt(int64(len(targets)))))}}
	for i := range l[0] {
		e.Features = append(e.Features, "f"+strconv.Itoa(i))
	}
	for range p.Trees {
		rest := slices.Clone(targets)
		for row, x := range l {
			s, _ := trees.Score(e, x)
			rest[row] -= s[0]
		}
		e.Trees = append(e.Trees, api.Tree{Nodes: growByWords(nil, l, rest, p, 0)})
	}
	return e
}

func lossByWords(e api.Ensemble, l [][]float64, targets []int64) string {
	sum := new(big.Int)
	for row, x := range l {
		s, _ := trees.Score(e, x)
		d := new(big.Int).Sub(big.NewInt(s[0]), big.NewInt(targets[row]))
		sum.Add(sum, d.Mul(d, d))
	}
	return sum.String()
}

// someNumbers draws from few numbers or from all.
func someNumber(r *rand.Rand) float64 {
	switch r.IntN(12) {
	case 0, 1:
		return nan
	case 2:
		return math.Float64frombits(r.Uint64())
	case 3:
		return []float64{endless, -endless, minus0, 0, 5e-324}[r.IntN(5)]
	}
	return float64(r.IntN(7) - 3)
}

func someRows(r *rand.Rand, many, features int, most int64) ([][]float64, []int64) {
	l, numbers := make([][]float64, many), make([]int64, many)
	size := []int64{2, 10, 1000, most}[r.IntN(4)]
	for row := range l {
		l[row] = make([]float64, features)
		for f := range l[row] {
			l[row][f] = someNumber(r)
		}
		numbers[row] = r.Int64N(2*size+1) - size
		if size == most && r.IntN(2) == 0 {
			numbers[row] = []int64{most, most - 1, -most, 1 - most}[r.IntN(4)]
		}
	}
	return l, numbers
}

func someLesson(r *rand.Rand) api.Lesson {
	p := api.Lesson{Trees: r.IntN(5), Deep: r.IntN(5), Least: 1 + r.IntN(4), Num: 1 + r.Int64N(5)}
	p.Den = p.Num + r.Int64N(5)
	if r.IntN(4) == 0 {
		p.Num, p.Den = 1+r.Int64N(api.MaxDen), api.MaxDen
	}
	return p
}

// shuffled are rows in another order.
func shuffled(r *rand.Rand, l [][]float64, numbers []int64) ([][]float64, []int64) {
	rows := r.Perm(len(l))
	return pick(l, rows), pick(numbers, rows)
}

func TestSomeBests(t *testing.T) {
	r := source()
	none, ties := 0, 0
	for range 3000 {
		l, rest := someRows(r, 1+r.IntN(12), 1+r.IntN(5), api.MaxRest)
		least := 1 + r.IntN(3)
		want, ok := bestByWords(l, rest, least)
		if !ok {
			none++
			noBest(t, "some rows", l, rest, least, api.OK)
			continue
		}
		isBest(t, "some rows", l, rest, least, want.feature, want.threshold, want.missing, len(want.lefts), want.gain.RatString())
		c, _, _ := Best(l, rest, least)
		gain, alike := ratOf(t, c.Gain), 0
		for _, p := range splitsByWords(l, rest, least) {
			if p.gain.Cmp(gain) > 0 {
				t.Errorf("P26.8: a split gains %v, the best one %v", p.gain, gain)
			}
			if p.gain.Cmp(gain) == 0 {
				alike++
			}
		}
		if alike > 1 {
			ties++
		}
		l, rest = shuffled(r, l, rest)
		isBest(t, "P26.7: rows in another order", l, rest, least, want.feature, want.threshold, want.missing, len(want.lefts), want.gain.RatString())
		if t.Failed() {
			t.Fatal(l, rest, least)
		}
	}
	if none < 100 || ties < 500 {
		t.Error("few of these have no split, or several that gain alike:", none, ties)
	}
}

// More rows and features than goroutines, numbers without a NaN, rests that differ little.
func TestManyRows(t *testing.T) {
	r := source()
	for i := range 40 {
		l, rest := someRows(r, 120, 20, api.MaxRest)
		for row := range rest {
			switch i % 4 {
			case 0:
				rest[row] = api.MaxRest - r.Int64N(3)
			case 1:
				rest[row] = r.Int64N(2)
			}
		}
		want, _ := bestByWords(l, rest, 5)
		isBest(t, "many rows", l, rest, 5, want.feature, want.threshold, want.missing, len(want.lefts), want.gain.RatString())
		if t.Failed() {
			t.Fatal(l, rest)
		}
	}
}

func TestSomeTrees(t *testing.T) {
	r := source()
	greatest := 0
	for range 1500 {
		l, rest := someRows(r, 1+r.IntN(25), 1+r.IntN(4), api.MaxRest)
		p := someLesson(r)
		want := api.Tree{Nodes: growByWords(nil, l, rest, p, 0)}
		isGrown(t, "some rows", l, rest, p, want)
		isLimited(t, want, l, p)
		greatest = max(greatest, len(want.Nodes))
		l, rest = shuffled(r, l, rest)
		isGrown(t, "P26.7: rows in another order", l, rest, p, want)
		if t.Failed() {
			t.Fatal(l, rest, p)
		}
	}
	if greatest < 25 {
		t.Error("all of these are small:", greatest)
	}
}

// isLimited holds a tree to P26.10.
func isLimited(t *testing.T, g api.Tree, l [][]float64, p api.Lesson) {
	t.Helper()
	if deep, why := trees.Depth(g); why != api.OK || deep > p.Deep {
		t.Errorf("P26.10: %d deep, %d", deep, why)
	}
	rows := make(map[int]int)
	for _, x := range l {
		place, _, _ := trees.Leaf(g, x)
		rows[place]++
	}
	leaves, _ := trees.Leaves(g)
	for place := range leaves {
		if len(leaves) > 1 && rows[place] < p.Least {
			t.Errorf("P26.10: leaf %d has %d rows", place, rows[place])
		}
	}
}

func TestSomeFits(t *testing.T) {
	r := source()
	fell := 0
	for range 500 {
		l, targets := someRows(r, 1+r.IntN(15), 1+r.IntN(4), api.MaxTarget)
		p := someLesson(r)
		want := fitByWords(l, targets, p)
		var curve []string
		for n := range p.Trees + 1 {
			part := trees.Copy(want)
			part.Trees = part.Trees[:n]
			curve = append(curve, lossByWords(part, l, targets))
			isLoss(t, "some rows", part, l, targets, curve[n])
		}
		isFit(t, "some rows", l, targets, p, want.Base[0], curve, want.Trees...)
		e, _ := Fit(l, targets, p)
		if b := rules.Check(e); b.Rule != api.RuleNone {
			t.Error("P26.10:", rules.Say(b))
		}
		for _, g := range e.Trees {
			isLimited(t, g, l, p)
		}
		losses, _ := Curve(l, targets, p)
		for n := 1; n < len(losses); n++ {
			if limbs.Cmp(losses[n], losses[n-1]) > 0 {
				t.Errorf("P26.6: %s behind %s", curve[n], curve[n-1])
			}
			if limbs.Cmp(losses[n], losses[n-1]) < 0 {
				fell++
			}
		}
		for n := range p.Trees {
			fewer := p
			fewer.Trees = n
			isFit(t, "P26.9: fewer trees", l, targets, fewer, want.Base[0], curve[:n+1], want.Trees[:n]...)
		}
		l, targets = shuffled(r, l, targets)
		isFit(t, "P26.7: rows in another order", l, targets, p, want.Base[0], curve, want.Trees...)
		if t.Failed() {
			t.Fatal(l, targets, p)
		}
	}
	if fell < 300 {
		t.Error("few of these losses fall:", fell)
	}
}

// Many rows, many trees, as deep as may be: what follows holds, and each row's leaf is the one that a vector comes to.
func TestGreatFits(t *testing.T) {
	r := source()
	for _, p := range []api.Lesson{plan(8, api.MaxDeep), rate(plan(8, api.MaxDeep), 1, 10), least(rate(plan(8, 5), 3, 4), 50)} {
		l, targets := make([][]float64, 2500), make([]int64, 2500)
		for row := range l {
			l[row] = at(r.Float64(), r.Float64(), float64(r.IntN(3)), someNumber(r))
			targets[row] = int64(1e9*(l[row][0]*l[row][1]+math.Sin(9*l[row][2]))) + r.Int64N(1000)
		}
		e, why := Fit(l, targets, p)
		if why != api.OK || rules.Check(e).Rule != api.RuleNone || len(e.Trees) != p.Trees {
			t.Fatal("P26.3:", why, rules.Check(e))
		}
		curve, why := Curve(l, targets, p)
		if why != api.OK || len(curve) != p.Trees+1 {
			t.Fatal("P26.4:", why, len(curve))
		}
		for n := range curve {
			part := e
			part.Trees = e.Trees[:n]
			if loss, why := Loss(part, l, targets); why != api.OK || !slices.Equal(loss, curve[n]) {
				t.Errorf("P26.4: behind %d: %s, not %s", n, limbs.Print(curve[n]), limbs.Print(loss))
			}
			if n > 0 && limbs.Cmp(curve[n], curve[n-1]) > 0 {
				t.Errorf("P26.6: behind %d: %s, ahead %s", n, limbs.Print(curve[n]), limbs.Print(curve[n-1]))
			}
			if n > 0 {
				isLimited(t, e.Trees[n-1], l, p)
			}
		}
		moved, others := shuffled(r, l, targets)
		if again, why := Fit(moved, others, p); why != api.OK || !trees.Same(again, e) {
			t.Error("P26.7: another order is seen")
		}
		if len(e.Trees[0].Nodes) < 20 {
			t.Error("a small tree:", len(e.Trees[0].Nodes))
		}
	}
}

// Targets at the limit, and a tree that goes wrong the most: the room is kept.
func TestRoom(t *testing.T) {
	r := source()
	for _, p := range []api.Lesson{plan(300, 1), rate(plan(300, 3), 1, 3), rate(plan(api.MaxRounds, 1), 1, api.MaxDen)} {
		l, targets := make([][]float64, 40), make([]int64, 40)
		for row := range l {
			l[row] = at(float64(row), r.Float64())
			targets[row] = []int64{api.MaxTarget, -api.MaxTarget}[r.IntN(2)]
		}
		e, why := Fit(l, targets, p)
		if b := rules.Check(e); why != api.OK || b.Rule != api.RuleNone {
			t.Error("P26.10:", why, rules.Say(b))
		}
	}
}

// A tree of MaxLeaves leaves, as a row has each of them.
func TestFullTree(t *testing.T) {
	var l [][]float64
	var rest []int64
	for i := range api.MaxLeaves {
		l, rest = append(l, at(float64(i))), append(rest, int64(i)) // halves gain most, all the way down
	}
	g, why := Grow(l, rest, plan(0, api.MaxDeep))
	if why != api.OK || len(g.Nodes) != 2*api.MaxLeaves-1 {
		t.Fatal("P26.2: a full tree:", len(g.Nodes), why)
	}
	for i, x := range l {
		if place, v, _ := trees.Leaf(g, x); place != i || v != rest[i] {
			t.Fatal("P26.2: a full tree: leaf", place, v)
		}
	}
	isLimited(t, g, l, plan(0, api.MaxDeep))
	less, _ := Grow(l, rest, plan(0, api.MaxDeep-1))
	if len(less.Nodes) != api.MaxLeaves-1 {
		t.Error("P26.2: one depth less:", len(less.Nodes))
	}
}

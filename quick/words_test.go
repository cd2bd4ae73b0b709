package quick

import (
	"math"
	"math/rand/v2"
	"slices"
	"testing"

	"thicket/api"
	"thicket/blocks"
	"thicket/lists"
	"thicket/rules"
	"thicket/trees"
)

// someTree has so many leaves, its nodes numbered at random; it asks for the features below features.
func someTree(r *rand.Rand, leaves, features int) api.Tree {
	anew := r.Perm(2*leaves - 2)
	at := func(i int) int { // node 0 stays the first one
		if i == 0 {
			return 0
		}
		return anew[i-1] + 1
	}
	t := api.Tree{Output: r.IntN(3), Nodes: make([]api.Node, 2*leaves-1)}
	many := 0
	var grow func(leaves int) int
	grow = func(leaves int) int {
		i := at(many)
		many++
		if leaves == 1 {
			t.Nodes[i] = leafOf(r.Int64N(2000) - 1000)
			return i
		}
		n := someSplit(r, features)
		ofLeft := 1 + r.IntN(leaves-1)
		n.Left = grow(ofLeft)
		n.Right = grow(leaves - ofLeft)
		t.Nodes[i] = n
		return i
	}
	grow(leaves)
	return t
}

// someSplit is an inner node, its Left and Right not yet told.
func someSplit(r *rand.Rand, features int) api.Node {
	missing := []api.Side{left, right}[r.IntN(2)]
	feature := r.IntN(features)
	if r.IntN(3) > 0 {
		return numberOf(feature, []float64{0, minus0, 0.5, -0.5, 1, 2, 3, endless, -endless, math.MaxFloat64, 5e-324}[r.IntN(11)], missing, 0, 0)
	}
	var cats []int
	for _, c := range []int{0, 1, 2, 3, 7, 1023} {
		if r.IntN(2) == 0 {
			cats = append(cats, c)
		}
	}
	if len(cats) == 0 {
		cats = []int{5}
	}
	return catsOf(feature, missing, 0, 0, cats...)
}

// someEnsemble has so many trees, three outputs and that many features; now and then a tree whose mask has several words.
func someEnsemble(r *rand.Rand, many, features int) api.Ensemble {
	e := api.Ensemble{Name: "m", Features: []string{"a", "b", "c", "d", "e"}[:features], Outputs: 3, Base: []int64{r.Int64N(1000), -5, 0}}
	for range many {
		leaves := 1 + r.IntN(9)
		if r.IntN(6) == 0 {
			leaves = 60 + r.IntN(140)
		}
		e.Trees = append(e.Trees, someTree(r, leaves, features))
	}
	return e
}

func someVector(r *rand.Rand, features int) []float64 {
	x := make([]float64, features)
	for i := range x {
		x[i] = []float64{0, minus0, 0.5, -0.5, 1, 1.5, 2, 3, 5, 7, 1023, 1024, -1, endless, -endless, nan, math.Float64frombits(0xfff0000000000001), 5e-324, math.MaxFloat64, math.Nextafter(0.5, 1)}[r.IntN(20)]
	}
	return x
}

func someVectors(r *rand.Rand, many, features int) [][]float64 {
	var l [][]float64
	for range many {
		l = append(l, someVector(r, features))
	}
	return l
}

// QuickScorer is descent: in blocks of any size, of any vector.
func TestIsDescent(t *testing.T) {
	r := source()
	for range 400 {
		features := 1 + r.IntN(5)
		e := someEnsemble(r, r.IntN(9), features)
		if b := rules.Check(e); b.Rule != api.RuleNone {
			t.Fatal("the test's ensemble is not right:", b)
		}
		sizes := []int{1, 2, 3, 1 + r.IntN(9), len(e.Trees) + 1, api.MaxTrees}
		l := someVectors(r, 8, features)
		var want [][]int64
		var leaves [][]int
		for _, x := range l {
			sums, why := trees.Score(e, x)
			if why != api.OK {
				t.Fatal(why)
			}
			var exits []int
			for _, g := range e.Trees {
				i, _, _ := trees.Leaf(g, x)
				exits = append(exits, i)
			}
			want, leaves = append(want, sums), append(leaves, exits)
		}
		for _, b := range sizes {
			s := scorer(t, e, b)
			for i, x := range l {
				got, why := s.Score(x)
				if why != api.OK || !slices.Equal(got, want[i]) {
					t.Fatalf("P5, P16.5, P16.6: blocks of %d: %v: %v, %d, not %v, of %v", b, x, got, why, want[i], e)
				}
				exits, why := s.Exits(x)
				if why != api.OK || !slices.Equal(exits, leaves[i]) {
					t.Fatalf("P16.5, P16.6: blocks of %d: %v: %v, %d, not %v, of %v", b, x, exits, why, leaves[i], e)
				}
			}
			all, why, at := s.All(l)
			if why != api.OK || at != 0 || !slices.EqualFunc(all, want, slices.Equal[[]int64]) {
				t.Fatalf("P16.3, P16.6: blocks of %d: %v, %d, %d, not %v", b, all, why, at, want)
			}
		}
	}
}

// Blocks that are no split, of whatever sizes, change no answer either; Work is that of the blocks' lists.
func TestAnyBlocks(t *testing.T) {
	r := source()
	for range 300 {
		e := someEnsemble(r, 1+r.IntN(9), 3)
		whole := scorer(t, e, api.MaxTrees)
		var l []api.Run
		for from := 0; from < len(e.Trees); {
			to := from + 1 + r.IntN(len(e.Trees)-from)
			l = append(l, api.Run{From: from, To: to})
			from = to
		}
		f, why := blocks.Of(e, l)
		s, no := New(f)
		if why != api.OK || no != api.OK || s.Trees() != len(e.Trees) {
			t.Fatalf("P16.1: blocks %v: %d, %d", l, why, no)
		}
		for _, x := range someVectors(r, 5, 3) {
			a, _ := whole.Score(x)
			b, _ := s.Score(x)
			c, _ := whole.Exits(x)
			d, _ := s.Exits(x)
			if !slices.Equal(a, b) || !slices.Equal(c, d) {
				t.Fatalf("P16.6: blocks %v: %v and %v, %v and %v", l, a, b, c, d)
			}
			work := 0
			for _, one := range f.Blocks {
				for _, list := range one.Lists {
					v := x[list.Feature]
					many := 0
					for many < len(list.Numbers) && list.Numbers[many].Threshold < v {
						many++
					}
					if many < len(list.Numbers) {
						many++
					}
					many += len(list.Cats)
					if v != v {
						many = len(list.Lost)
					}
					if many != lists.Work(list, v) {
						t.Fatalf("P14.2: %d, not %d", lists.Work(list, v), many)
					}
					work += many
				}
			}
			works(t, s, x, work)
		}
	}
}

// In whatever order vectors are asked, and whatever is asked between, each answer is that of a new scorer.
func TestScratch(t *testing.T) {
	r := source()
	for range 100 {
		e := someEnsemble(r, 1+r.IntN(8), 3)
		b := 1 + r.IntN(4)
		f := formOf(t, e, b)
		s := scorer(t, e, b)
		l := someVectors(r, 12, 3)
		for range 40 {
			x := l[r.IntN(len(l))]
			anew, _ := New(f)
			switch r.IntN(6) {
			case 0, 1:
				a, why := s.Score(x)
				c, _ := anew.Score(x)
				if why != api.OK || !slices.Equal(a, c) {
					t.Fatalf("P16.7: Score(%v) = %v, anew %v", x, a, c)
				}
			case 2:
				a, why := s.Exits(x)
				c, _ := anew.Exits(x)
				if why != api.OK || !slices.Equal(a, c) {
					t.Fatalf("P16.7: Exits(%v) = %v, anew %v", x, a, c)
				}
			case 3:
				n, _ := anew.Work(x)
				works(t, s, x, n)
			case 4:
				refused(t, "between others", s, x[:r.IntN(3)], api.ErrVector)
				if all, why, at := s.All([][]float64{x, x, x[:2]}); all != nil || why != api.ErrVector || at != 2 {
					t.Fatalf("P16.3: %v, %d, %d", all, why, at)
				}
			case 5:
				r.Shuffle(len(l), func(i, k int) { l[i], l[k] = l[k], l[i] })
				all, why, _ := s.All(l)
				for i, x := range l {
					anew, _ := New(f)
					if c, _ := anew.Score(x); why != api.OK || !slices.Equal(all[i], c) {
						t.Fatalf("P16.7: All of %v: %v, anew %v", x, all[i], c)
					}
				}
			}
		}
	}
}

package lanes

import (
	"fmt"
	"math"
	"math/rand/v2"
	"slices"
	"testing"

	"thicket/api"
	"thicket/blocks"
	"thicket/lists"
	"thicket/rules"
)

// someTree has so many leaves, its nodes numbered at random; it asks for the features below features.
func someTree(r *rand.Rand, leaves, features int) api.Tree {
	anew := r.Perm(2*leaves - 2)
	at := func(i int) int { // node 0 stays the first one
		if i == 0 {
			return 0
		}
		return anew[i-1] + 1
	}
	t := api.Tree{Output: r.IntN(3), Nodes: make([]api.Node, 2*leaves-1)}
	many := 0
	var grow func(leaves int) int
	grow = func(leaves int) int {
		i := at(many)
		many++
		if leaves == 1 {
			t.Nodes[i] = leafOf(r.Int64N(2000) - 1000)
			return i
		}
		n := someSplit(r, features)
		ofLeft := 1 + r.IntN(leaves-1)
		n.Left = grow(ofLeft)
		n.Right = grow(leaves - ofLeft)
		t.Nodes[i] = n
		return i
	}
	grow(leaves)
	return t
}

// someSplit is an inner node, its Left and Right not yet told.
func someSplit(r *rand.Rand, features int) api.Node {
	missing := []api.Side{left, right}[r.IntN(2)]
	feature := r.IntN(features)
	if r.IntN(3) > 0 {
		return numberOf(feature, []float64{0, minus0, 0.5, -0.5, 1, 2, 3, endless, -endless, math.MaxFloat64, 5e-324}[r.IntN(11)], missing, 0, 0)
	}
	var cats []int
	for _, c := range []int{0, 1, 2, 3, 7, 1023} {
		if r.IntN(2) == 0 {
			cats = append(cats, c)
		}
	}
	if len(cats) == 0 {
		cats = []int{5}
	}
	return catsOf(feature, missing, 0, 0, cats...)
}

// someEnsemble has so many trees, three outputs and that many features; now and then a tree whose mask has several words.
func someEnsemble(r *rand.Rand, many, features int) api.Ensemble {
	e := api.Ensemble{Name: "m", Features: []string{"a", "b", "c", "d", "e"}[:features], Outputs: 3, Base: []int64{r.Int64N(1000), -5, 0}}
	for range many {
		leaves := 1 + r.IntN(9)
		if r.IntN(6) == 0 {
			leaves = 60 + r.IntN(140)
		}
		e.Trees = append(e.Trees, someTree(r, leaves, features))
	}
	return e
}

// someVectors have any numbers; at times a feature is lost in all of them, or in none.
func someVectors(r *rand.Rand, many, features int) [][]float64 {
	numbers := []float64{0, minus0, 0.5, -0.5, 1, 1.5, 2, 3, 5, 7, 1023, 1024, -1, endless, -endless, 5e-324, math.MaxFloat64, math.Nextafter(0.5, 1), nan, math.Float64frombits(0xfff0000000000001)}
	l := make([][]float64, many)
	for i := range l {
		l[i] = make([]float64, features)
	}
	for k := range features {
		of := [][]float64{numbers, numbers, numbers[:18], numbers[18:]}[r.IntN(4)]
		for i := range l {
			l[i][k] = of[r.IntN(len(of))]
		}
	}
	return l
}

// Eight lanes are descent, and are quick: in blocks of any size, however many vectors there are.
func TestIsDescent(t *testing.T) {
	r := source()
	counts := []int{0, 1, 2, 7, 8, 9, 15, 16, 17, 20}
	for i := range 400 {
		features := 1 + r.IntN(5)
		e := someEnsemble(r, r.IntN(9), features)
		if b := rules.Check(e); b.Rule != api.RuleNone {
			t.Fatal("the test's ensemble is not right:", b)
		}
		l := someVectors(r, counts[i%len(counts)], features)
		scores, exits := descent(t, e, l)
		for _, b := range []int{1, 2, 1 + r.IntN(9), len(e.Trees) + 1, api.MaxTrees} {
			f := formOf(t, e, b)
			ofQuick, exitsOfQuick, _ := oneByOne(t, f, l)
			s, _ := New(f)
			says(t, "P5: by descent", s, l, scores, exits)
			says(t, "P18.6: by quick", s, l, ofQuick, exitsOfQuick)
		}
		if t.Failed() {
			return
		}
	}
}

// In another order, in other groups, alone, twice: each vector has what it has by itself.
func TestWhoeverStandsBeside(t *testing.T) {
	r := source()
	for range 200 {
		e := someEnsemble(r, 1+r.IntN(6), 3)
		f := formOf(t, e, 1+r.IntN(4))
		s, _ := New(f)
		l := someVectors(r, 1+r.IntN(30), 3)
		scores, exits, _ := oneByOne(t, f, l)
		order := r.Perm(len(l))
		if r.IntN(2) == 0 { // some twice, some not at all
			for i := range order {
				order[i] = r.IntN(len(l))
			}
		}
		var mixed [][]float64
		var mixedScores [][]int64
		var mixedExits [][]int
		for _, i := range order {
			mixed, mixedScores, mixedExits = append(mixed, l[i]), append(mixedScores, scores[i]), append(mixedExits, exits[i])
		}
		says(t, "P18.6, P9: in another order", s, mixed, mixedScores, mixedExits)
		for from := 0; from < len(l); {
			to := from + 1 + r.IntN(len(l)-from)
			says(t, "P18.6, P9: in other groups", s, l[from:to], scores[from:to], exits[from:to])
			from = to
		}
		i := r.IntN(len(l))
		says(t, "P18.6, P9: alone", s, l[i:i+1], scores[i:i+1], exits[i:i+1])
		if t.Failed() {
			return
		}
	}
}

// workByWords is said by the words of P18.4: lane by lane, with lists.First alone.
func workByWords(f api.Form, l [][]float64) int {
	work := 0
	for from := 0; from < len(l); from += 8 {
		for _, b := range f.Blocks {
			for _, one := range b.Lists {
				greatest, lost := -1, false
				for i := range 8 {
					v := l[min(from+i, len(l)-1)][one.Feature]
					if v != v {
						lost = true
					} else {
						greatest = max(greatest, lists.First(one, v))
					}
				}
				if greatest >= 0 {
					work += greatest + len(one.Cats)
					if greatest < len(one.Numbers) {
						work++
					}
				}
				if lost {
					work += len(one.Lost)
				}
			}
		}
	}
	return work
}

// Work of one vector is quick's; of a group it is what the words say, and never more than that of all its vectors.
func TestWork(t *testing.T) {
	r := source()
	for range 400 {
		e := someEnsemble(r, r.IntN(7), 3)
		f := formOf(t, e, 1+r.IntN(8))
		s, _ := New(f)
		l := someVectors(r, 1+r.IntN(20), 3)
		_, _, ofQuick := oneByOne(t, f, l)
		for i := range l {
			works(t, "P18.9: of one vector", s, l[i:i+1], ofQuick[i])
		}
		works(t, "P18.4", s, l, workByWords(f, l))
		together := 0
		for from := 0; from < len(l); from += 8 {
			to := min(from+8, len(l))
			all := 0
			for _, n := range ofQuick[from:to] {
				all += n
			}
			n, why, at := s.Work(l[from:to])
			if why != api.OK || at != 0 || n > all {
				t.Errorf("P18.9: Work(%v) = %d, %d, %d; the vectors have %d", l[from:to], n, why, at, all)
			}
			together += n
		}
		works(t, "P18.4: groups are added up", s, l, together)
		if t.Failed() {
			return
		}
	}
}

// Work of groups in which all, some and no lanes are NaN, and of which the scans end at different places.
func TestWorkOfLanes(t *testing.T) {
	// Numbers 1, 2, 3 and 4, of which 1 and 3 are lost; categories twice, of which one is lost.
	e := ensemble(1, stump(numberOf(0, 3, right, 0, 0)), stump(catsOf(0, right, 0, 0, 2)), stump(numberOf(0, 1, right, 0, 0)), stump(numberOf(0, 4, left, 0, 0)), stump(catsOf(0, left, 0, 0, 0, 7)), stump(numberOf(0, 2, left, 0, 0)))
	s := scorer(t, e, 6)
	for _, c := range []struct {
		numbers []float64
		want    int
	}{
		{[]float64{0}, 1 + 2}, {[]float64{1}, 1 + 2}, {[]float64{1.5}, 2 + 2}, {[]float64{4}, 4 + 2}, {[]float64{5}, 4 + 2}, {[]float64{endless}, 4 + 2}, {[]float64{-endless}, 1 + 2},
		{[]float64{nan}, 3}, {[]float64{nan, nan}, 3}, {slices.Repeat([]float64{nan}, 8), 3}, {slices.Repeat([]float64{nan}, 9), 6},
		{[]float64{nan, 0}, 3 + 3}, {[]float64{0, nan}, 3 + 3}, {[]float64{-endless, nan}, 3 + 3}, {[]float64{nan, 2.5, nan}, 3 + 5},
		{[]float64{0, 1.5, 2.5, 3.5}, 4 + 2}, {[]float64{3.5, 2.5, 1.5, 0}, 4 + 2}, {[]float64{1, 1.5, 0, 1.5, 1, 0, 1.5, 1}, 2 + 2}, {[]float64{0, 0, 0, 0, 0, 0, 0, 2.5}, 3 + 2},
		{[]float64{0, 0, 0, 0, 0, 0, 0, 0, 2.5}, 3 + 5}, {[]float64{nan, nan, nan, nan, nan, nan, nan, 0}, 3 + 3}, {[]float64{nan, nan, nan, nan, nan, nan, nan, nan, 0}, 3 + 3}, {slices.Repeat([]float64{5}, 17), 18},
	} {
		var l [][]float64
		for _, v := range c.numbers {
			l = append(l, []float64{v})
		}
		works(t, "P18.4", s, l, c.want)
	}
}

// Groups in which all, some and no lanes are NaN: in every one of the 256 ways.
func TestLanesOfNaN(t *testing.T) {
	e := ensemble(2, stump(numberOf(0, 3, right, 0, 0)), stump(catsOf(0, right, 0, 0, 2)), stump(numberOf(0, 1, left, 0, 0)), stump(catsOf(1, left, 0, 0, 0, 7)), stump(numberOf(1, 2, right, 0, 0)), chain(70, right))
	f := formOf(t, e, 4)
	s, _ := New(f)
	lost := nans()
	for ways := range 256 {
		l := some(8, 2)
		for i, x := range l {
			x[0] = float64((ways + i) % 5)
			if ways>>i&1 == 1 {
				x[0] = lost[(ways+i)%len(lost)]
			}
			if ways>>(7-i)&1 == 1 && i%3 > 0 {
				x[1] = lost[ways%len(lost)]
			}
		}
		scores, exits := descent(t, e, l)
		says(t, fmt.Sprintf("P18.4: lanes %08b lost", ways), s, l, scores, exits)
		works(t, fmt.Sprintf("P18.4: lanes %08b lost", ways), s, l, workByWords(f, l))
	}
}

// Blocks that are no split, of whatever sizes, change no answer either.
func TestAnyBlocks(t *testing.T) {
	r := source()
	for range 200 {
		e := someEnsemble(r, 1+r.IntN(9), 3)
		var runs []api.Run
		for from := 0; from < len(e.Trees); {
			to := from + 1 + r.IntN(len(e.Trees)-from)
			runs = append(runs, api.Run{From: from, To: to})
			from = to
		}
		f, why := blocks.Of(e, runs)
		s, no := New(f)
		if why != api.OK || no != api.OK {
			t.Fatalf("P18.3: blocks %v: %d, %d", runs, why, no)
		}
		l := someVectors(r, 10, 3)
		scores, exits := descent(t, e, l)
		says(t, fmt.Sprintf("P5: blocks %v", runs), s, l, scores, exits)
		works(t, fmt.Sprintf("P18.4: blocks %v", runs), s, l, workByWords(f, l))
	}
}

package blocks

import (
	"fmt"
	"math"
	"slices"
	"testing"

	"thicket/api"
)

// treeC has four leaves, nodes of both kinds on both sides; feature 1 is asked for by three nodes of it.
func treeC() api.Tree {
	return treeOf(numberOf(1, 3, right, 1, 4), catsOf(1, left, 2, 3, 0, 7), leafOf(31), leafOf(32), numberOf(1, 1, right, 5, 6), leafOf(33), leafOf(34))
}

// many is an ensemble that is compiled to all that a block may have.
func many() api.Ensemble {
	e := ensemble(3, treeA(), treeB(), treeC())
	e.Outputs, e.Base = 2, []int64{100, -5}
	e.Trees[1].Output = 1
	return e
}

// In one block: feature 0 has Cats {4} tree 1, Lost; feature 1 Numbers 1 tree 1, 1 tree 2, 2 tree 0, 3 tree 2, Cats {0, 7} tree 2, Lost tree 0, tree 2 twice.
func block() api.Block {
	of0 := api.List{Feature: 0, Cats: []api.Cut{cut(0, 1, 0, 1, 4)}, Lost: []api.Cut{cut(0, 1, 0, 1, 4)}}
	of1 := api.List{Feature: 1, Numbers: []api.Cut{cut(1, 1, 0, 2), cut(1, 2, 2, 3), cut(2, 0, 0, 1), cut(3, 2, 0, 2)}, Cats: []api.Cut{cut(0, 2, 0, 1, 0, 7)}, Lost: []api.Cut{cut(2, 0, 0, 1), cut(3, 2, 0, 2), cut(1, 2, 2, 3)}}
	return api.Block{Leaves: []int{2, 3, 4}, Values: [][]int64{{10, 20}, {1, 2, 3}, {31, 32, 33, 34}}, Outputs: []int{0, 1, 0}, Lists: []api.List{of0, of1}}
}

func TestManyCompiled(t *testing.T) {
	f := compiled(t, many(), runs(0, 3))
	isForm(t, "15.3: many", f, api.OK, api.Form{Features: 3, Outputs: 2, Base: []int64{100, -5}, Blocks: []api.Block{block()}})
	isBack(t, "many", many(), f)
}

// change is a change of a form's block, told by what becomes of it.
type change struct {
	what string
	do   func(f *api.Form, b *api.Block)
}

// harmless change a right form to another one.
func harmless() []change {
	return []change{
		{"Features one more", func(f *api.Form, b *api.Block) { f.Features++ }},
		{"Features one fewer", func(f *api.Form, b *api.Block) { f.Features-- }},
		{"Features as many as may be", func(f *api.Form, b *api.Block) { f.Features = api.MaxFeatures }},
		{"an output more", func(f *api.Form, b *api.Block) { f.Outputs, f.Base = 3, append(f.Base, 7) }},
		{"Base", func(f *api.Form, b *api.Block) { f.Base[1] = math.MinInt64 }},
		{"a value", func(f *api.Form, b *api.Block) { b.Values[2][3] = math.MaxInt64 }},
		{"a tree's output", func(f *api.Form, b *api.Block) { b.Outputs[0], b.Outputs[1] = 1, 0 }},
		{"a threshold, in Numbers and Lost", func(f *api.Form, b *api.Block) {
			b.Lists[1].Numbers[3].Threshold, b.Lists[1].Lost[1].Threshold = endless, endless
		}},
		{"the least threshold", func(f *api.Form, b *api.Block) { b.Lists[1].Numbers[0].Threshold = -endless }},
		{"a threshold that is alike, of an earlier tree", func(f *api.Form, b *api.Block) {
			b.Lists[1].Numbers[2].Threshold, b.Lists[1].Lost[0].Threshold = 3, 3
		}},
		{"categories, in Cats and Lost", func(f *api.Form, b *api.Block) {
			b.Lists[0].Cats[0].Cats, b.Lists[0].Lost[0].Cats = []int{0, 1023}, []int{0, 1023}
		}},
		{"categories that are not Lost", func(f *api.Form, b *api.Block) { b.Lists[1].Cats[0].Cats = []int{7} }},
		{"one less Lost", func(f *api.Form, b *api.Block) { b.Lists[1].Lost = b.Lists[1].Lost[:2] }},
		{"no Lost", func(f *api.Form, b *api.Block) { b.Lists[1].Lost = nil }},
		{"one more Lost", func(f *api.Form, b *api.Block) {
			b.Lists[1].Lost = slices.Insert(b.Lists[1].Lost, 1, cut(1, 1, 0, 2))
		}},
		{"one more Lost, of Cats", func(f *api.Form, b *api.Block) {
			b.Lists[1].Lost = slices.Insert(b.Lists[1].Lost, 2, cut(0, 2, 0, 1, 0, 7))
		}},
		{"the last list's feature", func(f *api.Form, b *api.Block) { b.Lists[1].Feature = 2 }},
		{"a number to categories", func(f *api.Form, b *api.Block) {
			b.Lists[1].Numbers = b.Lists[1].Numbers[1:]
			b.Lists[1].Cats = slices.Insert(b.Lists[1].Cats, 0, cut(0, 1, 0, 2, 1, 2))
		}},
		{"two left subtrees that nest", func(f *api.Form, b *api.Block) { // the nodes of treeC by another root
			b.Lists[1].Numbers[1].From, b.Lists[1].Numbers[1].To = 0, 3
			b.Lists[1].Lost[2].From, b.Lists[1].Lost[2].To = 0, 3
			b.Lists[1].Lost[1], b.Lists[1].Lost[2] = b.Lists[1].Lost[2], b.Lists[1].Lost[1]
		}},
		{"a root below what was its Left", func(f *api.Form, b *api.Block) { b.Lists[1].Numbers[0].From = 1 }},
		{"no blocks", func(f *api.Form, b *api.Block) { f.Blocks = nil }},
		{"empty lists for nil", func(f *api.Form, b *api.Block) {
			b.Lists[0].Numbers, b.Lists[0].Cats[0].Cats = []api.Cut{}, []int{4}
			b.Lists[1].Numbers[0].Cats = []int{}
		}},
	}
}

// harmful make a form that is of no ensemble.
func harmful() []change {
	var l []change
	l = append(l, wrongHeads()...)
	l = append(l, wrongTrees()...)
	l = append(l, wrongLists()...)
	l = append(l, wrongCuts()...)
	return append(l, wrongPlaces()...)
}

func wrongHeads() []change {
	return []change{
		{"Features too few", func(f *api.Form, b *api.Block) { f.Features = 1 }},
		{"no Features", func(f *api.Form, b *api.Block) { f.Features = 0 }},
		{"Features below 0", func(f *api.Form, b *api.Block) { f.Features = -1 }},
		{"Features too many", func(f *api.Form, b *api.Block) { f.Features = api.MaxFeatures + 1 }},
		{"Outputs one more", func(f *api.Form, b *api.Block) { f.Outputs++ }},
		{"Outputs one fewer", func(f *api.Form, b *api.Block) { f.Outputs-- }},
		{"no Outputs", func(f *api.Form, b *api.Block) { f.Outputs, f.Base = 0, nil }},
		{"an output that a tree has", func(f *api.Form, b *api.Block) { f.Outputs, f.Base = 1, f.Base[:1] }},
		{"Base one more", func(f *api.Form, b *api.Block) { f.Base = append(f.Base, 0) }},
		{"Base one fewer", func(f *api.Form, b *api.Block) { f.Base = f.Base[:1] }},
		{"no Base", func(f *api.Form, b *api.Block) { f.Base = nil }},
	}
}

func wrongTrees() []change {
	return []change{
		{"an empty block", func(f *api.Form, b *api.Block) { *b = api.Block{First: b.First} }},
		{"First one more", func(f *api.Form, b *api.Block) { b.First++ }},
		{"First one less", func(f *api.Form, b *api.Block) { b.First-- }},
		{"First far", func(f *api.Form, b *api.Block) { b.First = math.MaxInt }},
		{"Leaves one more", func(f *api.Form, b *api.Block) { b.Leaves[1]++ }},
		{"Leaves one less", func(f *api.Form, b *api.Block) { b.Leaves[1]-- }},
		{"Leaves 0", func(f *api.Form, b *api.Block) { b.Leaves[0] = 0 }},
		{"Leaves below 0", func(f *api.Form, b *api.Block) { b.Leaves[0] = -2 }},
		{"Leaves far", func(f *api.Form, b *api.Block) { b.Leaves[2] = math.MaxInt }},
		{"Leaves exchanged", func(f *api.Form, b *api.Block) { b.Leaves[0], b.Leaves[1] = b.Leaves[1], b.Leaves[0] }},
		{"Leaves of one more", func(f *api.Form, b *api.Block) { b.Leaves = append(b.Leaves, 1) }},
		{"Leaves of one fewer", func(f *api.Form, b *api.Block) { b.Leaves = b.Leaves[:2] }},
		{"no Leaves", func(f *api.Form, b *api.Block) { b.Leaves = nil }},
		{"a value more", func(f *api.Form, b *api.Block) { b.Values[1] = append(b.Values[1], 4) }},
		{"a value fewer", func(f *api.Form, b *api.Block) { b.Values[1] = b.Values[1][:2] }},
		{"no values of a tree", func(f *api.Form, b *api.Block) { b.Values[1] = nil }},
		{"Values of one more", func(f *api.Form, b *api.Block) { b.Values = append(b.Values, []int64{1}) }},
		{"Values of one fewer", func(f *api.Form, b *api.Block) { b.Values = b.Values[:2] }},
		{"no Values", func(f *api.Form, b *api.Block) { b.Values = nil }},
		{"a value and Leaves one more", func(f *api.Form, b *api.Block) { b.Values[1], b.Leaves[1] = append(b.Values[1], 4), 4 }},
		{"a value and Leaves one fewer", func(f *api.Form, b *api.Block) { b.Values[1], b.Leaves[1] = b.Values[1][:2], 2 }},
		{"no value and no Leaves", func(f *api.Form, b *api.Block) { b.Values[1], b.Leaves[1] = nil, 0 }},
		{"a tree without leaves more", func(f *api.Form, b *api.Block) {
			b.Values, b.Leaves, b.Outputs = append(b.Values, nil), append(b.Leaves, 0), append(b.Outputs, 0)
		}},
		{"trees exchanged", func(f *api.Form, b *api.Block) {
			b.Values[0], b.Values[1], b.Leaves[0], b.Leaves[1] = b.Values[1], b.Values[0], 3, 2
		}},
		{"an output below 0", func(f *api.Form, b *api.Block) { b.Outputs[1] = -1 }},
		{"an output too great", func(f *api.Form, b *api.Block) { b.Outputs[1] = 2 }},
		{"outputs of one more", func(f *api.Form, b *api.Block) { b.Outputs = append(b.Outputs, 0) }},
		{"outputs of one fewer", func(f *api.Form, b *api.Block) { b.Outputs = b.Outputs[:2] }},
		{"no outputs", func(f *api.Form, b *api.Block) { b.Outputs = nil }},
		{"a tree fewer", func(f *api.Form, b *api.Block) {
			b.Values, b.Leaves, b.Outputs = b.Values[:2], b.Leaves[:2], b.Outputs[:2]
		}},
	}
}

func wrongLists() []change {
	return []change{
		{"the first list left out", func(f *api.Form, b *api.Block) { b.Lists = b.Lists[1:] }},
		{"the last list left out", func(f *api.Form, b *api.Block) { b.Lists = b.Lists[:1] }},
		{"no lists", func(f *api.Form, b *api.Block) { b.Lists = nil }},
		{"the first list doubled", func(f *api.Form, b *api.Block) { b.Lists = slices.Insert(b.Lists, 0, b.Lists[0]) }},
		{"the last list doubled", func(f *api.Form, b *api.Block) { b.Lists = append(b.Lists, b.Lists[1]) }},
		{"lists exchanged", func(f *api.Form, b *api.Block) { b.Lists[0], b.Lists[1] = b.Lists[1], b.Lists[0] }},
		{"an empty list behind", func(f *api.Form, b *api.Block) { b.Lists = append(b.Lists, api.List{Feature: 2}) }},
		{"an empty list ahead", func(f *api.Form, b *api.Block) {
			b.Lists[0].Feature, b.Lists[1].Feature = 1, 2
			b.Lists = slices.Insert(b.Lists, 0, api.List{})
		}},
		{"a list in two", func(f *api.Form, b *api.Block) {
			b.Lists = append(b.Lists, api.List{Feature: 1, Numbers: b.Lists[1].Numbers[3:]})
			b.Lists[1].Numbers = b.Lists[1].Numbers[:3]
		}},
		{"features that do not rise", func(f *api.Form, b *api.Block) { b.Lists[0].Feature = 1 }},
		{"features that fall", func(f *api.Form, b *api.Block) { b.Lists[0].Feature = 2 }},
		{"a feature below 0", func(f *api.Form, b *api.Block) { b.Lists[0].Feature = -1 }},
		{"a feature too great", func(f *api.Form, b *api.Block) { b.Lists[1].Feature = 3 }},
		{"a feature far", func(f *api.Form, b *api.Block) { b.Lists[1].Feature = math.MaxInt }},
	}
}

// cutsOf are ways to one of the lists of cuts, each with how many it has in block.
func cutsOf() map[string]func(b *api.Block) *[]api.Cut {
	return map[string]func(b *api.Block) *[]api.Cut{
		"Numbers": func(b *api.Block) *[]api.Cut { return &b.Lists[1].Numbers },
		"Cats":    func(b *api.Block) *[]api.Cut { return &b.Lists[1].Cats },
		"Cats 0":  func(b *api.Block) *[]api.Cut { return &b.Lists[0].Cats },
		"Lost":    func(b *api.Block) *[]api.Cut { return &b.Lists[1].Lost },
		"Lost 0":  func(b *api.Block) *[]api.Cut { return &b.Lists[0].Lost },
	}
}

// wrongCuts change each cut of each list by itself.
func wrongCuts() []change {
	b := block()
	var l []change
	for name, of := range cutsOf() {
		of := of
		for i, c := range *of(&b) {
			add := func(what string, do func(all *[]api.Cut, c *api.Cut)) {
				l = append(l, change{fmt.Sprintf("%s %d: %s", name, i, what), func(_ *api.Form, b *api.Block) { do(of(b), &(*of(b))[i]) }})
			}
			if name[0] != 'L' {
				add("left out", func(all *[]api.Cut, _ *api.Cut) { *all = slices.Delete(*all, i, i+1) })
			}
			add("doubled", func(all *[]api.Cut, c *api.Cut) { *all = slices.Insert(*all, i, *c) })
			add("again at the end", func(all *[]api.Cut, c *api.Cut) { *all = append(*all, *c) })
			add("in a tree that is none", func(_ *[]api.Cut, c *api.Cut) { c.Tree = 3 })
			add("in a tree below 0", func(_ *[]api.Cut, c *api.Cut) { c.Tree = -1 })
			add("in a tree far away", func(_ *[]api.Cut, c *api.Cut) { c.Tree = math.MaxInt })
			add("in a tree far below", func(_ *[]api.Cut, c *api.Cut) { c.Tree = math.MinInt })
			add("in another tree", func(_ *[]api.Cut, c *api.Cut) { c.Tree = (c.Tree + 1) % 3 })
			add("in the third tree", func(_ *[]api.Cut, c *api.Cut) { c.Tree = (c.Tree + 2) % 3 })
			for _, place := range [][2]int{{c.From + 1, c.To}, {c.From - 1, c.To}, {c.From, c.To - 1}, {c.From, c.From}, {c.To, c.From}, {c.From, c.To + 4}, {c.From - 4, c.To}, {-1, c.To}, {math.MinInt, c.To}, {c.From, math.MaxInt}, {c.From, math.MinInt}, {math.MaxInt, c.To}, {math.MinInt, math.MaxInt}, {math.MaxInt, math.MaxInt}} {
				if name == "Numbers" && i == 0 && place == [2]int{1, 2} { // it is not Lost and may stand there: see harmless
					continue
				}
				add(fmt.Sprint("from ", place[0], " to ", place[1]), func(_ *[]api.Cut, c *api.Cut) { c.From, c.To = place[0], place[1] })
			}
			for _, v := range []float64{nan, math.Float64frombits(0xfff0000000000001)} {
				add("NaN", func(_ *[]api.Cut, c *api.Cut) { c.Threshold = v })
			}
			for _, cats := range [][]int{{1024}, {-1}, {3, 3}, {3, 2}, {0, 7, 4}, {0, 0, 7}, {math.MaxInt}, {math.MinInt, 4}} {
				add(fmt.Sprint("categories ", cats), func(_ *[]api.Cut, c *api.Cut) { c.Cats = cats })
			}
			if len(c.Cats) > 0 {
				add("no categories", func(_ *[]api.Cut, c *api.Cut) { c.Cats = nil })
				add("a threshold", func(_ *[]api.Cut, c *api.Cut) { c.Threshold = 1 })
				add("-0", func(_ *[]api.Cut, c *api.Cut) { c.Threshold = minus0 })
			} else {
				add("a category", func(_ *[]api.Cut, c *api.Cut) { c.Cats = []int{4} })
			}
			if name[0] == 'L' {
				add("another threshold", func(_ *[]api.Cut, c *api.Cut) { c.Threshold = math.Nextafter(c.Threshold, 9) })
			}
			if name == "Numbers" {
				add("infinity", func(_ *[]api.Cut, c *api.Cut) { c.Threshold = []float64{endless, endless, endless, -endless}[i] })
			}
			if i > 0 {
				add("exchanged with its neighbour", func(all *[]api.Cut, c *api.Cut) { *c, (*all)[i-1] = (*all)[i-1], *c })
			}
		}
	}
	return l
}

// wrongPlaces move cuts between lists, or several of one tree.
func wrongPlaces() []change {
	return []change{
		{"Numbers and Cats exchanged", func(_ *api.Form, b *api.Block) { l := &b.Lists[1]; l.Numbers, l.Cats = l.Cats, l.Numbers }},
		{"Numbers and Lost exchanged", func(_ *api.Form, b *api.Block) { l := &b.Lists[1]; l.Numbers, l.Lost = l.Lost, l.Numbers }},
		{"Cats and Lost exchanged", func(_ *api.Form, b *api.Block) { l := &b.Lists[1]; l.Cats, l.Lost = l.Lost, l.Cats }},
		{"no Numbers", func(_ *api.Form, b *api.Block) { b.Lists[1].Numbers = nil }},
		{"no Cats", func(_ *api.Form, b *api.Block) { b.Lists[1].Cats = nil }},
		{"Numbers doubled", func(_ *api.Form, b *api.Block) { l := &b.Lists[1]; l.Numbers = append(l.Numbers, l.Numbers...) }},
		{"Lost doubled", func(_ *api.Form, b *api.Block) { l := &b.Lists[1]; l.Lost = append(l.Lost, l.Lost...) }},
		{"Lost of two features exchanged", func(_ *api.Form, b *api.Block) { b.Lists[0].Lost, b.Lists[1].Lost = b.Lists[1].Lost, b.Lists[0].Lost }},
		{"Lost of both in one list", func(_ *api.Form, b *api.Block) {
			b.Lists[1].Lost = slices.Insert(b.Lists[1].Lost, 1, b.Lists[0].Lost[0])
			b.Lists[0].Lost = nil
		}},
		{"Lost of both in each list", func(_ *api.Form, b *api.Block) {
			b.Lists[1].Lost = slices.Insert(b.Lists[1].Lost, 1, b.Lists[0].Lost[0])
		}},
		{"Numbers of two trees exchanged", func(_ *api.Form, b *api.Block) {
			n := b.Lists[1].Numbers
			n[0].Tree, n[2].Tree = n[2].Tree, n[0].Tree
		}},
		{"left subtrees that cross", func(_ *api.Form, b *api.Block) {
			b.Lists[1].Numbers[1].From, b.Lists[1].Lost[2].From = 1, 1
		}},
		{"left subtrees that cross the other way", func(_ *api.Form, b *api.Block) {
			b.Lists[1].Numbers[3].To, b.Lists[1].Lost[1].To, b.Lists[1].Numbers[1].From, b.Lists[1].Lost[2].From = 3, 3, 2, 2
		}},
		{"two left subtrees that are one", func(_ *api.Form, b *api.Block) {
			b.Lists[1].Numbers[1].From, b.Lists[1].Numbers[1].To, b.Lists[1].Lost[2].From, b.Lists[1].Lost[2].To = 0, 2, 0, 2
		}},
		{"two that end at one leaf", func(_ *api.Form, b *api.Block) {
			b.Lists[1].Numbers[1].From, b.Lists[1].Numbers[1].To, b.Lists[1].Lost[2].From, b.Lists[1].Lost[2].To = 1, 2, 1, 2
		}},
		{"a gap", func(_ *api.Form, b *api.Block) { b.Lists[1].Numbers[3].To, b.Lists[1].Lost[1].To = 1, 1 }},
		{"all leaves", func(_ *api.Form, b *api.Block) { b.Lists[1].Numbers[3].To, b.Lists[1].Lost[1].To = 4, 4 }},
		{"the last leaf", func(_ *api.Form, b *api.Block) {
			b.Lists[1].Numbers[1].From, b.Lists[1].Numbers[1].To, b.Lists[1].Lost[2].From, b.Lists[1].Lost[2].To = 3, 4, 3, 4
		}},
	}
}

// stack is three times the same block, one behind another.
func stack() api.Form {
	f := api.Form{Features: 3, Outputs: 2, Base: []int64{100, -5}}
	for i := range 3 {
		b := block()
		b.First = 3 * i
		f.Blocks = append(f.Blocks, b)
	}
	return f
}

func TestHarmlessChanges(t *testing.T) {
	for _, c := range harmless() {
		for at := range 3 {
			f := stack()
			c.do(&f, &f.Blocks[at])
			l := isRight(t, c.what, f)
			e := ensemble(max(f.Features, 0), l...)
			e.Outputs, e.Base = f.Outputs, f.Base
			var blocks []api.Run
			for _, b := range f.Blocks {
				blocks = append(blocks, api.Run{From: b.First, To: b.First + len(b.Leaves)})
			}
			isForm(t, "15.8: "+c.what, compiled(t, e, blocks), api.OK, f)
		}
	}
}

func TestHarmfulChanges(t *testing.T) {
	heads := len(wrongHeads())
	for i, c := range harmful() {
		for at := range 3 {
			f := stack()
			c.do(&f, &f.Blocks[at])
			want := at
			if i < heads { // of all blocks at once
				want = 0
			}
			isWrong(t, c.what, f, want)
			f.Blocks = f.Blocks[:at+1]
			isWrong(t, c.what+", last", f, want)
			if i >= heads {
				f.Blocks = f.Blocks[:at]
				isRight(t, c.what+", left out", f)
			}
		}
	}
}

// Of two blocks that are at fault the first is told.
func TestTwoFaults(t *testing.T) {
	all := harmful()[len(wrongHeads()):]
	r := source()
	for _, one := range all {
		other := all[r.IntN(len(all))]
		for at := range 2 {
			f := stack()
			one.do(&f, &f.Blocks[at])
			other.do(&f, &f.Blocks[2])
			isWrong(t, one.what+" and "+other.what, f, at)
			f = stack()
			one.do(&f, &f.Blocks[at])
			other.do(&f, &f.Blocks[at+1])
			isWrong(t, one.what+" and "+other.what, f, at)
		}
		f := stack()
		one.do(&f, &f.Blocks[1])
		f.Base = nil
		isWrong(t, one.what+" and the head", f, 0)
	}
}

// A block that is left out, doubled or exchanged with another one: those behind it do not begin where they should.
func TestBlocksAtFault(t *testing.T) {
	f := stack()
	f.Blocks = f.Blocks[1:]
	isWrong(t, "the first block left out", f, 0)
	f = stack()
	f.Blocks = slices.Delete(f.Blocks, 1, 2)
	isWrong(t, "a block left out", f, 1)
	f = stack()
	f.Blocks = append(f.Blocks, f.Blocks[2])
	isWrong(t, "a block doubled", f, 3)
	f = stack()
	f.Blocks[1], f.Blocks[2] = f.Blocks[2], f.Blocks[1]
	isWrong(t, "blocks exchanged", f, 1)
	f = stack()
	f.Blocks = append(f.Blocks, api.Block{First: 9})
	isWrong(t, "an empty block behind", f, 3)
	f = stack()
	f.Blocks = slices.Insert(f.Blocks, 0, api.Block{})
	isWrong(t, "an empty block ahead", f, 0)
	isWrong(t, "nothing", api.Form{}, 0)
	isWrong(t, "empty blocks", api.Form{Outputs: 1, Base: []int64{0}, Blocks: make([]api.Block, 3)}, 0)
}

// Same looks at each field, in all lists; nil and empty lists are alike.
func TestSame(t *testing.T) {
	if !Same(stack(), stack()) || !Same(api.Form{}, api.Form{}) || Same(stack(), api.Form{}) || Same(api.Form{}, stack()) {
		t.Error("15.5: forms that are one")
	}
	for _, c := range append(harmful(), harmless()...) {
		if c.what == "empty lists for nil" {
			continue
		}
		f := stack()
		c.do(&f, &f.Blocks[1])
		if Same(f, stack()) || Same(stack(), f) {
			t.Errorf("15.5: %s: Same as ahead of it", c.what)
		}
		if !Same(f, f) || !Same(f, Copy(f)) || !Same(Copy(f), f) || said(Copy(f)) != said(f) {
			t.Errorf("15.5: %s: not Same as itself", c.what)
		}
	}
	for _, pair := range [][2]api.Form{
		{{Base: []int64{}, Blocks: []api.Block{}}, {}},
		{{Blocks: []api.Block{{}}}, {Blocks: []api.Block{{Leaves: []int{}, Values: [][]int64{}, Outputs: []int{}, Lists: []api.List{}}}}},
		{{Blocks: []api.Block{{Values: [][]int64{nil, {}}, Lists: []api.List{{}}}}}, {Blocks: []api.Block{{Values: [][]int64{{}, nil}, Lists: []api.List{{Numbers: []api.Cut{}, Cats: []api.Cut{}, Lost: []api.Cut{}}}}}}},
		{{Blocks: []api.Block{{Lists: []api.List{{Numbers: []api.Cut{{Cats: []int{}}}, Lost: []api.Cut{{}}}}}}}, {Blocks: []api.Block{{Lists: []api.List{{Numbers: []api.Cut{{}}, Lost: []api.Cut{{Cats: []int{}}}}}}}}},
	} {
		if !Same(pair[0], pair[1]) || !Same(pair[1], pair[0]) || !Same(Copy(pair[0]), pair[1]) || !Same(pair[0], Copy(pair[1])) {
			t.Errorf("15.5: nil and empty lists: %v and %v", pair[0], pair[1])
		}
	}
	if Same(api.Form{Blocks: []api.Block{{Values: [][]int64{nil}}}}, api.Form{Blocks: []api.Block{{}}}) || Same(api.Form{Blocks: []api.Block{{}}}, api.Form{}) || Same(api.Form{Blocks: []api.Block{{Lists: []api.List{{}}}}}, api.Form{Blocks: []api.Block{{}}}) {
		t.Error("15.5: a list that holds an empty one is not empty")
	}
}

// Thresholds are held against each other by their bits, a NaN's too.
func TestSameByBits(t *testing.T) {
	thresholds := []float64{0, minus0, nan, math.Float64frombits(0x7ff8000000000002), math.Float64frombits(0xfff8000000000001), math.Float64frombits(0x7ff0000000000001), 1, endless, -endless}
	for i, a := range thresholds {
		for j, b := range thresholds {
			for _, of := range cutsOf() {
				f, g := stack(), stack()
				(*of(&f.Blocks[2]))[0].Threshold = a
				(*of(&g.Blocks[2]))[0].Threshold = b
				if Same(f, g) != (i == j) || Same(f, Copy(g)) != (i == j) {
					t.Errorf("15.5: %v and %v", a, b)
				}
			}
		}
	}
}

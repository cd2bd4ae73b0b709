package blocks

import (
	"math"
	"math/rand/v2"
	"slices"
	"testing"

	"thicket/api"
	"thicket/trees"
)

// someTree has so many leaves, its nodes numbered at random; it asks for the features below features.
func someTree(r *rand.Rand, leaves, features int) api.Tree {
	anew := r.Perm(2*leaves - 2)
	at := func(i int) int { // node 0 stays the first one
		if i == 0 {
			return 0
		}
		return anew[i-1] + 1
	}
	t := api.Tree{Output: r.IntN(3), Nodes: make([]api.Node, 2*leaves-1)}
	many := 0
	var grow func(leaves int) int
	grow = func(leaves int) int {
		i := at(many)
		many++
		if leaves == 1 {
			t.Nodes[i] = leafOf(r.Int64N(2000) - 1000)
			return i
		}
		n := someSplit(r, features)
		ofLeft := 1 + r.IntN(leaves-1)
		n.Left = grow(ofLeft)
		n.Right = grow(leaves - ofLeft)
		t.Nodes[i] = n
		return i
	}
	grow(leaves)
	return t
}

// someSplit is an inner node, its Left and Right not yet told.
func someSplit(r *rand.Rand, features int) api.Node {
	missing := []api.Side{left, right}[r.IntN(2)]
	feature := r.IntN(features)
	if r.IntN(3) > 0 {
		return numberOf(feature, []float64{0, minus0, 0.5, -0.5, 1, 2, 3, endless, -endless, math.MaxFloat64, 5e-324}[r.IntN(11)], missing, 0, 0)
	}
	var cats []int
	for _, c := range []int{0, 1, 2, 3, 7, 1023} {
		if r.IntN(2) == 0 {
			cats = append(cats, c)
		}
	}
	if len(cats) == 0 {
		cats = []int{5}
	}
	return catsOf(feature, missing, 0, 0, cats...)
}

// someEnsemble has so many trees, three outputs and features.
func someEnsemble(r *rand.Rand, many int) api.Ensemble {
	e := api.Ensemble{Name: "m", Features: make([]string, 3), Outputs: 3, Base: []int64{r.Int64(), -5, 0}}
	for range many {
		e.Trees = append(e.Trees, someTree(r, 1+r.IntN(8), 3))
	}
	return e
}

// someBlocks are blocks of so many trees.
func someBlocks(r *rand.Rand, many int) []api.Run {
	var l []api.Run
	for from := 0; from < many; {
		to := from + 1 + r.IntN(many-from)
		l = append(l, api.Run{From: from, To: to})
		from = to
	}
	return l
}

// marked is an inner node with its cut.
type marked struct {
	node api.Node
	cut  api.Cut
}

// markedByWords are the inner nodes of right trees, in order: how many leaves stand ahead of one, and how many below its Left; and the leaves' values.
func markedByWords(l []api.Tree) ([]marked, [][]int64) {
	var all []marked
	values := make([][]int64, len(l))
	for number, g := range l {
		var visit func(i int)
		visit = func(i int) {
			n := g.Nodes[i]
			if n.Kind == api.NodeLeaf {
				values[number] = append(values[number], n.Value)
				return
			}
			at, from := len(all), len(values[number])
			all = append(all, marked{node: n})
			visit(n.Left)
			all[at].cut = cut(n.Threshold, number, from, len(values[number]), n.Cats...)
			visit(n.Right)
		}
		visit(0)
	}
	return all, values
}

// formByWords takes feature by feature, and puts each cut behind the last one that it is not below.
func formByWords(e api.Ensemble, l []api.Run) api.Form {
	f := api.Form{Features: len(e.Features), Outputs: e.Outputs, Base: e.Base}
	for _, r := range l {
		marks, values := markedByWords(e.Trees[r.From:r.To])
		b := api.Block{First: r.From, Values: values}
		for i, v := range values {
			b.Leaves, b.Outputs = append(b.Leaves, len(v)), append(b.Outputs, e.Trees[r.From+i].Output)
		}
		for feature := range e.Features {
			one := api.List{Feature: feature}
			for _, m := range marks {
				if m.node.Feature != feature {
					continue
				}
				if m.node.Kind == api.NodeCats {
					one.Cats = append(one.Cats, m.cut)
				} else {
					at := len(one.Numbers)
					for at > 0 && m.cut.Threshold < one.Numbers[at-1].Threshold {
						at--
					}
					one.Numbers = slices.Insert(one.Numbers, at, m.cut)
				}
				if m.node.Missing == right {
					one.Lost = append(one.Lost, m.cut)
				}
			}
			if len(one.Numbers)+len(one.Cats) > 0 {
				b.Lists = append(b.Lists, one)
			}
		}
		f.Blocks = append(f.Blocks, b)
	}
	return f
}

// Any ensemble in any blocks is compiled as the words say, and comes back.
func TestAnyEnsembles(t *testing.T) {
	r := source()
	for range 2000 {
		e := someEnsemble(r, r.IntN(7))
		l := someBlocks(r, len(e.Trees))
		f := compiled(t, e, l)
		if want := formByWords(e, l); said(f) != said(want) {
			t.Fatalf("15.3: %v in %v:\n%snot\n%s", e, l, said(f), said(want))
		}
		isBack(t, "any ensemble", e, f)
		again := e
		again.Trees, _ = Back(f)
		if g, why := Of(again, l); why != api.OK || !Same(f, g) {
			t.Fatalf("15.8: %v in %v: %s", e, l, said(g))
		}
		b := 1 + r.IntN(len(e.Trees)+2)
		g, why := Compile(e, b)
		split, _ := Split(len(e.Trees), b)
		isForm(t, "15.3: Compile", g, why, formByWords(e, split))
	}
	e := someEnsemble(r, 3)
	e.Trees = append(e.Trees, someTree(r, 1000, 3), someTree(r, api.MaxLeaves, 3), someTree(r, 65, 3))
	for _, l := range [][]api.Run{runs(0, 6), runs(0, 4, 4, 6)} {
		f := compiled(t, e, l)
		if said(f) != said(formByWords(e, l)) {
			t.Error("15.3: great trees")
		}
		isBack(t, "great trees", e, f)
	}
}

// Plan's blocks by the words of 15.9, and by going on as long as it can be.
func TestAnyPlans(t *testing.T) {
	r := source()
	for range 3000 {
		e := someEnsemble(r, r.IntN(10))
		most := r.IntN(20)
		l, why := Plan(e, most)
		if why != api.OK {
			t.Fatal("15.2:", why)
		}
		inner := func(from, to int) int {
			n := 0
			for _, g := range e.Trees[from:to] {
				for _, one := range g.Nodes {
					if one.Kind != api.NodeLeaf {
						n++
					}
				}
			}
			return n
		}
		end := 0
		for i, one := range l {
			if one.From != end || one.To <= one.From {
				t.Fatalf("15.9: %v are no blocks", l)
			}
			end = one.To
			if one.To-one.From > 1 && inner(one.From, one.To) > most {
				t.Fatalf("15.9: %v: %v has %d inner nodes, above %d", l, one, inner(one.From, one.To), most)
			}
			if i > 0 && inner(l[i-1].From, one.To) <= most {
				t.Fatalf("15.9: %v: %v could be one with that ahead of it", l, one)
			}
			if one.To < len(e.Trees) && inner(one.From, one.To+1) <= most {
				t.Fatalf("15.2: %v: %v could be longer", l, one)
			}
		}
		if end != len(e.Trees) {
			t.Fatalf("15.9: %v are no blocks of %d trees", l, len(e.Trees))
		}
		compiled(t, e, l)
	}
}

func TestAnySplits(t *testing.T) {
	for many := range 40 {
		for b := 1; b < 45; b++ {
			l, why := Split(many, b)
			if why != api.OK || len(l) != (many+b-1)/b {
				t.Fatalf("15.1: Split(%d, %d): %v, %d", many, b, l, why)
			}
			for i, one := range l {
				if one.From != i*b || one.To != i*b+b && (i != len(l)-1 || one.To != many) {
					t.Fatalf("15.1: Split(%d, %d): %v", many, b, l)
				}
			}
		}
	}
}

// few are all trees of at most three leaves that a small world has: two features, noughts as thresholds, one category; values tell leaves by their places.
func few() []api.Tree {
	var nodes []api.Node
	for feature := range 2 {
		for _, side := range []api.Side{left, right} {
			nodes = append(nodes, numberOf(feature, 0, side, 0, 0), numberOf(feature, minus0, side, 0, 0), catsOf(feature, side, 0, 0, 0))
		}
	}
	join := func(n api.Node, l, r int, behind ...api.Node) api.Tree {
		n.Left, n.Right = l, r
		return treeOf(append([]api.Node{n}, behind...)...)
	}
	l := []api.Tree{treeOf(leafOf(0))}
	for _, a := range nodes {
		l = append(l, join(a, 1, 2, leafOf(0), leafOf(1)))
		for _, b := range nodes {
			b.Left, b.Right = 2, 3
			l = append(l, join(a, 1, 4, b, leafOf(0), leafOf(1), leafOf(2)))
			b.Left, b.Right = 3, 4
			l = append(l, join(a, 1, 2, leafOf(0), b, leafOf(1), leafOf(2)))
		}
	}
	return l
}

// In a small world all right forms are known: whatever is made of one of them is right just if it is one of them.
func TestSmallWorld(t *testing.T) {
	world := few()
	whole := map[string]int{}
	var forms []api.Form
	for i, a := range world {
		for _, b := range world {
			f := formByWords(ensemble(2, a, b), runs(0, 2))
			whole[said(f)]++
			if i%7 == 0 {
				forms = append(forms, f)
			}
		}
	}
	if len(whole) != len(world)*len(world) {
		t.Fatalf("15.7: %d forms of %d ensembles", len(whole), len(world)*len(world))
	}
	r := source()
	met := map[api.Errno]int{}
	for range 60000 {
		f := Copy(forms[r.IntN(len(forms))])
		for range 1 + r.IntN(3) {
			disturb(r, &f.Blocks[0])
		}
		want := api.ErrForm
		if whole[said(f)] > 0 {
			want = api.OK
		}
		why, at := Check(f)
		if why != want || at != 0 {
			t.Fatalf("15.4: Check = %d, %d, not %d, of\n%s", why, at, want, said(f))
		}
		l, why := Back(f)
		if why != want || why != api.OK && l != nil {
			t.Fatalf("15.4: Back = %d of\n%s", why, said(f))
		}
		if why == api.OK {
			if g := formByWords(ensemble(2, l...), runs(0, 2)); said(g) != said(f) {
				t.Fatalf("15.8: %v of\n%s", l, said(f))
			}
		}
		met[why]++
	}
	for _, why := range []api.Errno{api.OK, api.ErrForm} {
		if met[why] < 5000 {
			t.Errorf("%d was met %d times: no test", why, met[why])
		}
	}
}

// disturb changes something in a block's lists such that it stays within the small world, or is wrong.
func disturb(r *rand.Rand, b *api.Block) {
	if len(b.Lists) == 0 {
		return
	}
	l := &b.Lists[r.IntN(len(b.Lists))]
	of := func() *[]api.Cut { return []*[]api.Cut{&l.Numbers, &l.Cats, &l.Lost}[r.IntN(3)] }
	from := of()
	if r.IntN(12) == 0 {
		l.Feature = r.IntN(3)
		return
	}
	if r.IntN(12) == 0 {
		k := r.IntN(len(b.Lists))
		*l, b.Lists[k] = b.Lists[k], *l
		return
	}
	if len(*from) == 0 {
		return
	}
	i := r.IntN(len(*from))
	c := &(*from)[i]
	switch r.IntN(10) {
	case 0:
		*from = slices.Delete(*from, i, i+1)
	case 1, 2: // such as are made Lost are right, where their place is
		if from == &l.Lost {
			*from = slices.Delete(*from, i, i+1)
		} else {
			l.Lost = slices.Insert(l.Lost, r.IntN(len(l.Lost)+1), *c)
		}
	case 3:
		c.Threshold = []float64{0, minus0, nan}[r.IntN(3)]
	case 4:
		c.Tree = r.IntN(4) - 1
	case 5:
		c.From = r.IntN(5) - 1
	case 6:
		c.To = r.IntN(5) - 1
	case 7:
		k := r.IntN(len(*from))
		*c, (*from)[k] = (*from)[k], *c
	case 8: // a node of the other kind
		l.Numbers, l.Cats = l.Cats, l.Numbers
		for _, all := range [][]api.Cut{l.Numbers, l.Cats, l.Lost} {
			for i := range all {
				if len(all[i].Cats) == 0 {
					all[i].Cats = []int{0}
				} else {
					all[i].Cats = nil
				}
				all[i].Threshold = 0
			}
		}
	case 9: // another place, for all that stand at this one
		was := *c
		f, to := r.IntN(3), 1+r.IntN(2)
		for _, one := range b.Lists {
			for _, all := range [][]api.Cut{one.Numbers, one.Cats, one.Lost} {
				for i := range all {
					if all[i].Tree == was.Tree && all[i].From == was.From && all[i].To == was.To {
						all[i].From, all[i].To = f, to
					}
				}
			}
		}
	}
}

// Forms that were changed at random: no call panics, and one that is right is what Of makes of its trees.
func TestSpoiledForms(t *testing.T) {
	r := source()
	met := map[api.Errno]int{}
	for range 20000 {
		e := someEnsemble(r, 1+r.IntN(6))
		f := compiled(t, e, someBlocks(r, len(e.Trees)))
		for range 1 + r.IntN(2) {
			spoil(r, &f)
		}
		why, at := Check(f)
		met[why]++
		l, no := Back(f)
		if why != no || at != 0 && why == api.OK || at < 0 || at > 0 && at >= len(f.Blocks) {
			t.Fatalf("15.4: Check = %d, %d, Back = %d of\n%s", why, at, no, said(f))
		}
		if why == api.OK {
			e = api.Ensemble{Features: make([]string, f.Features), Outputs: f.Outputs, Base: f.Base, Trees: l}
			var blocks []api.Run
			for _, b := range f.Blocks {
				blocks = append(blocks, api.Run{From: b.First, To: b.First + len(b.Leaves)})
			}
			isForm(t, "15.8", compiled(t, e, blocks), api.OK, f)
			m, _ := trees.Model(e)
			if !trees.Same(m, e) {
				t.Fatalf("15.4: Back is not numbered as Canon has it: %v", l)
			}
			continue
		}
		// The form is wrong with that block, and right without it.
		if len(f.Blocks) > 0 {
			g := f
			g.Blocks = f.Blocks[:at+1]
			if why, here := Check(g); why != api.ErrForm || here != at {
				t.Fatalf("15.4: cut behind block %d: %d, %d", at, why, here)
			}
			g.Blocks = f.Blocks[:at]
			if why, _ := Check(g); at > 0 && why != api.OK {
				t.Fatalf("15.4: cut ahead of block %d: %d", at, why)
			}
		}
	}
	for _, why := range []api.Errno{api.OK, api.ErrForm} {
		if met[why] < 1000 {
			t.Errorf("%d was met %d times: no test", why, met[why])
		}
	}
}

// spoil changes one thing of a form, to what may be right or not.
func spoil(r *rand.Rand, f *api.Form) {
	number := []int{-1, 0, 1, 2, 3, 4, 5, 9, math.MaxInt, math.MinInt}[r.IntN(10)]
	if r.IntN(20) == 0 || len(f.Blocks) == 0 {
		switch r.IntN(4) {
		case 0:
			f.Features = min(max(number, -1), api.MaxFeatures+1)
		case 1:
			f.Outputs = number
		case 2:
			f.Base = f.Base[:r.IntN(len(f.Base)+1)]
		case 3:
			f.Blocks = f.Blocks[:r.IntN(len(f.Blocks)+1)]
		}
		return
	}
	b := &f.Blocks[r.IntN(len(f.Blocks))]
	if len(b.Lists) > 0 && r.IntN(4) > 0 {
		disturb(r, b)
		return
	}
	switch i := r.IntN(9); {
	case i == 0:
		b.First = number
	case i == 1 && len(b.Leaves) > 0:
		b.Leaves[r.IntN(len(b.Leaves))] = number
	case i == 2 && len(b.Values) > 0:
		v := &b.Values[r.IntN(len(b.Values))]
		*v = (*v)[:r.IntN(len(*v)+1)]
	case i == 3 && len(b.Outputs) > 0:
		b.Outputs[r.IntN(len(b.Outputs))] = number
	case i == 4:
		b.Leaves = append(b.Leaves, number)
	case i == 5:
		b.Values = append(b.Values, make([]int64, r.IntN(3)))
	case i == 6:
		b.Outputs = append(b.Outputs, number)
	case i == 7:
		b.Lists = append(b.Lists, api.List{Feature: number})
	case i == 8 && len(b.Values) > 0 && len(b.Values[0]) > 0:
		b.Values[0][0] = int64(number)
	}
}

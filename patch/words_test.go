package patch

import (
	"math"
	"math/rand/v2"
	"slices"
	"testing"

	"thicket/api"
	"thicket/bins"
	"thicket/blocks"
	"thicket/code"
	"thicket/image"
	"thicket/lanes"
	"thicket/limbs"
	"thicket/quick"
	"thicket/rules"
	"thicket/slim"
	"thicket/trees"
)

// A second opinion, from the chapter's words.

// keptByWords is the greatest number of pairs of trees that are one, rising on both sides: with each pair that may come first, and those behind it.
func keptByWords(a, b []api.Tree) int {
	greatest := 0
	for i := range a {
		for j := range b {
			if trees.Alike(a[i], b[j]) {
				greatest = max(greatest, 1+keptByWords(a[i+1:], b[j+1:]))
			}
		}
	}
	return greatest
}

// doneByWords is one tree of a script, and where that is: by how many of the old and of the new ones have been gone over.
type doneByWords struct {
	kind api.EditKind
	i, j int
}

func scriptByWords(a, b []api.Tree) []doneByWords {
	var l []doneByWords
	for i, j := 0, 0; i < len(a) || j < len(b); {
		if i < len(a) && j < len(b) && trees.Alike(a[i], b[j]) {
			l = append(l, doneByWords{keep, i, j})
			i, j = i+1, j+1
		} else if i < len(a) && keptByWords(a[i+1:], b[j:]) == keptByWords(a[i:], b[j:]) {
			l = append(l, doneByWords{drop, i, j})
			i++
		} else {
			l = append(l, doneByWords{add, i, j})
			j++
		}
	}
	return l
}

func editsByWords(a, b []api.Tree) []api.Edit {
	var l []api.Edit
	last := api.EditNone
	for _, d := range scriptByWords(a, b) {
		if d.kind != last {
			l = append(l, api.Edit{Kind: d.kind})
		}
		e := &l[len(l)-1]
		switch last = d.kind; d.kind {
		case keep:
			e.Many++
		case drop:
			e.Trees = append(e.Trees, a[d.i])
		case add:
			e.Trees = append(e.Trees, b[d.j])
		}
	}
	return l
}

func isRightByWords(p api.Patch) bool {
	for i, e := range p.Edits {
		switch e.Kind {
		case keep:
			if e.Many < 1 || len(e.Trees) > 0 {
				return false
			}
		case drop, add:
			if e.Many != 0 || len(e.Trees) < 1 {
				return false
			}
		default:
			return false
		}
		if i > 0 && p.Edits[i-1].Kind == e.Kind {
			return false
		}
	}
	return true
}

func applyByWords(a api.Ensemble, p api.Patch) (api.Ensemble, api.Errno) {
	if !rules.Valid(a) {
		return api.Ensemble{}, api.ErrModel
	}
	if !isRightByWords(p) || !sameHeads(p.Old, headOf(a)) {
		return api.Ensemble{}, api.ErrPatch
	}
	at := 0
	var l []api.Tree
	for _, e := range p.Edits {
		for n := 0; e.Kind == keep && n < e.Many; n++ {
			if at >= len(a.Trees) {
				return api.Ensemble{}, api.ErrPatch
			}
			l, at = append(l, a.Trees[at]), at+1
		}
		for _, g := range e.Trees {
			if e.Kind == add {
				l = append(l, g)
				continue
			}
			if at >= len(a.Trees) || !trees.Alike(a.Trees[at], g) {
				return api.Ensemble{}, api.ErrPatch
			}
			at++
		}
	}
	if at != len(a.Trees) {
		return api.Ensemble{}, api.ErrPatch
	}
	e := ensembleOf(p.New, l)
	if !rules.Valid(e) {
		return api.Ensemble{}, api.ErrModel
	}
	return e, api.OK
}

// addedByWords are the trees that a script adds where so many old ones have been gone over.
func addedByWords(l []doneByWords, over int, b []api.Tree) []api.Tree {
	var out []api.Tree
	for _, d := range l {
		if d.kind == add && d.i == over {
			out = append(out, b[d.j])
		}
	}
	return out
}

func isDroppedByWords(l []doneByWords, i int) bool {
	return slices.ContainsFunc(l, func(d doneByWords) bool { return d.kind == drop && d.i == i })
}

func mergeByWords(o, a, b api.Ensemble) (api.Ensemble, api.Errno, int) {
	if !rules.Valid(o) || !rules.Valid(a) || !rules.Valid(b) {
		return api.Ensemble{}, api.ErrModel, 0
	}
	if max(len(o.Trees), len(a.Trees), len(b.Trees)) > api.MaxDiff {
		return api.Ensemble{}, api.ErrMany, 0
	}
	e := trees.Copy(o)
	e.Trees = nil
	for _, x := range []api.Ensemble{a, b} {
		if x.Name != o.Name {
			e.Name = x.Name
		}
		if !slices.Equal(x.Features, o.Features) {
			e.Features = x.Features
		}
		if x.Outputs != o.Outputs {
			e.Outputs = x.Outputs
		}
		if !slices.Equal(x.Base, o.Base) {
			e.Base = x.Base
		}
	}
	if a.Name != o.Name && b.Name != o.Name && a.Name != b.Name ||
		!slices.Equal(a.Features, o.Features) && !slices.Equal(b.Features, o.Features) && !slices.Equal(a.Features, b.Features) ||
		a.Outputs != o.Outputs && b.Outputs != o.Outputs && a.Outputs != b.Outputs ||
		!slices.Equal(a.Base, o.Base) && !slices.Equal(b.Base, o.Base) && !slices.Equal(a.Base, b.Base) {
		return api.Ensemble{}, api.ErrClash, -1
	}
	one, other := scriptByWords(o.Trees, a.Trees), scriptByWords(o.Trees, b.Trees)
	for g := range len(o.Trees) + 1 {
		x, y := addedByWords(one, g, a.Trees), addedByWords(other, g, b.Trees)
		if len(x) > 0 && len(y) > 0 && !slices.EqualFunc(x, y, trees.Alike) {
			return api.Ensemble{}, api.ErrClash, g
		}
		if len(x) == 0 {
			x = y
		}
		e.Trees = append(e.Trees, x...)
		if g < len(o.Trees) && !isDroppedByWords(one, g) && !isDroppedByWords(other, g) {
			e.Trees = append(e.Trees, o.Trees[g])
		}
	}
	if !rules.Valid(e) {
		return api.Ensemble{}, api.ErrModel, 0
	}
	return e, api.OK, 0
}

func someNumber(r *rand.Rand) float64 {
	switch r.IntN(9) {
	case 0:
		return math.NaN()
	case 1:
		return math.Float64frombits(r.Uint64())
	}
	return []float64{0, math.Copysign(0, -1), 1, 2, 3, 0.5, 1.5, -1, math.Inf(1), math.Inf(-1)}[r.IntN(10)]
}

// someTree is a right tree of two features and two outputs.
func someTree(r *rand.Rand, inner int) api.Tree {
	value := func() api.Node { return leafOf(r.Int64N(200) - 100) }
	nodes := []api.Node{value()}
	for range inner {
		i := r.IntN(len(nodes))
		for nodes[i].Kind != api.NodeLeaf {
			i = r.IntN(len(nodes))
		}
		n := api.Node{Kind: api.NodeNumber, Feature: r.IntN(2), Missing: api.Side(1 + r.IntN(2)), Left: len(nodes) + 1, Right: len(nodes)}
		for n.Threshold = someNumber(r); math.IsNaN(n.Threshold); {
			n.Threshold = someNumber(r)
		}
		if r.IntN(3) == 0 {
			n.Kind, n.Threshold, n.Cats = api.NodeCats, 0, [][]int{{0}, {1, 3}, {0, 2}, {1023}}[r.IntN(4)]
		}
		nodes[i] = n
		nodes = append(nodes, value(), value())
	}
	return api.Tree{Output: r.IntN(2), Nodes: nodes}
}

// someStock are some trees, each with what is nearly the same.
func someStock(r *rand.Rand) []api.Tree {
	var l []api.Tree
	for range 1 + r.IntN(3) {
		g := someTree(r, r.IntN(4))
		canon, _ := trees.Canon(g)
		other := trees.Copy(with(g)).Trees[0]
		other.Output = 1 - other.Output
		l = append(l, g, canon, other)
	}
	return l[:1+r.IntN(len(l))]
}

// someOf is an ensemble of a stock's trees, with any head.
func someOf(r *rand.Rand, stock []api.Tree, many int) api.Ensemble {
	e := with()
	for range many {
		e.Trees = append(e.Trees, stock[r.IntN(len(stock))])
	}
	for range r.IntN(3) {
		changeHead(r, &e)
	}
	return trees.Copy(e)
}

func changeHead(r *rand.Rand, e *api.Ensemble) {
	switch r.IntN(8) {
	case 0:
		e.Name = string(rune('m' + r.IntN(3)))
	case 1:
		e.Features = []string{"a", string(rune('b' + r.IntN(3)))}
	case 2:
		e.Features = []string{"a", "b", "c"}
	case 3:
		e.Outputs, e.Base = 3, []int64{5, -5, 0}
	case 4:
		e.Base = slices.Clone(e.Base)
		e.Base[r.IntN(len(e.Base))] += r.Int64N(2)
	}
}

// changedTrees are trees of which some go and between which others come.
func changedTrees(r *rand.Rand, l, stock []api.Tree) []api.Tree {
	var out []api.Tree
	for i := range len(l) + 1 {
		for r.IntN(6) == 0 {
			out = append(out, stock[r.IntN(len(stock))])
		}
		if i < len(l) && r.IntN(5) > 0 {
			out = append(out, l[i])
		}
	}
	return out[:min(len(out), 8)]
}

// someChanged is an ensemble that was changed here and there.
func someChanged(r *rand.Rand, o api.Ensemble, stock []api.Tree) api.Ensemble {
	e := trees.Copy(o)
	e.Trees = changedTrees(r, o.Trees, stock)
	switch r.IntN(8) {
	case 0, 1, 2, 3:
		changeHead(r, &e)
	case 4: // no room is left for what another one adds
		e.Base = slices.Clone(e.Base)
		e.Base[0] = 0
		room, _ := rules.Room(e, 0)
		used, _ := limbs.Small(room)
		e.Base[0] = api.MaxSum - 1 - int64(used)
	}
	return trees.Copy(e)
}

func TestDiffByWords(t *testing.T) {
	r := source()
	for range 3000 {
		stock := someStock(r)
		a, b := someOf(r, stock, r.IntN(7)), someOf(r, stock, r.IntN(7))
		p, why := Diff(a, b)
		want := api.Patch{Old: headOf(a), New: headOf(b), Edits: editsByWords(a.Trees, b.Trees)}
		if why != api.OK || !samePatches(p, want) || !isRightByWords(p) {
			t.Fatalf("P28.1: of %v and %v: %v, %d, not %v", a, b, p, why, want)
		}
		kept, _, _, _ := Size(p)
		if most := keptByWords(a.Trees, b.Trees); kept != most {
			t.Fatalf("P28.7: %d kept of %d", kept, most)
		}
		thereAndBack(t, a, b)
	}
}

// All ensembles of few trees out of two.
func TestAllSmallEnsembles(t *testing.T) {
	var all []string
	for many := range 6 {
		for c := range 1 << many {
			s := ""
			for i := range many {
				s += string(rune('A' + c>>i&1))
			}
			all = append(all, s)
		}
	}
	for _, a := range all {
		for _, b := range all {
			p, why := Diff(of(a), of(b))
			if want := said(editsByWords(letters(a), letters(b))); why != api.OK || said(p.Edits) != want {
				t.Fatalf("P28.1: %s and %s: %s, %d, not %s", a, b, said(p.Edits), why, want)
			}
		}
	}
	for _, o := range all[:15] {
		for _, a := range all[:31] {
			for _, b := range all[:31] {
				isMergedByWords(t, of(o), of(a), of(b))
			}
		}
	}
}

func isMergedByWords(t *testing.T, o, a, b api.Ensemble) api.Errno {
	t.Helper()
	want, no, place := mergeByWords(o, a, b)
	e, why, at := Merge(o, a, b)
	if why != no || at != place || !trees.Same(e, want) {
		t.Fatalf("P28.4: of %v, %v, %v: %v, %d, %d, not %v, %d, %d", o, a, b, e, why, at, want, no, place)
	}
	if again, why, at := Merge(o, b, a); why != no || at != place || !trees.Same(again, want) {
		t.Fatalf("P28.8: the other way round: of %v, %v, %v: %v, %d, %d, not %v, %d, %d", o, a, b, again, why, at, want, no, place)
	}
	return why
}

func TestMergeByWords(t *testing.T) {
	r := source()
	count := map[api.Errno]int{}
	for range 6000 {
		stock := someStock(r)
		o := someOf(r, stock, r.IntN(6))
		a, b := someChanged(r, o, stock), someChanged(r, o, stock)
		count[isMergedByWords(t, o, a, b)]++
		for what, c := range map[string][3]api.Ensemble{"Merge(o, a, o)": {o, a, o}, "Merge(o, o, a)": {o, o, a}, "Merge(o, a, a)": {o, a, a}} {
			if e, why, at := Merge(c[0], c[1], c[2]); why != api.OK || at != 0 || !trees.Same(e, a) {
				t.Fatalf("P28.8: %s of %v and %v: %v, %d, %d", what, o, a, e, why, at)
			}
		}
	}
	for _, why := range []api.Errno{api.OK, api.ErrClash, api.ErrModel} {
		if count[why] < 10 {
			t.Error("few of these:", why, count[why])
		}
	}
}

// someEdits are edits of trees, right ones most often, bent here and there.
func someEdits(r *rand.Rand, old, stock []api.Tree) []api.Edit {
	l := editsByWords(old, changedTrees(r, old, stock))
	for range r.IntN(3) {
		if len(l) == 0 {
			break
		}
		e := &l[r.IntN(len(l))]
		switch r.IntN(6) {
		case 0:
			e.Many += r.IntN(3) - 1
		case 1:
			e.Kind = api.EditKind(r.IntN(5))
		case 2:
			e.Trees = append(slices.Clone(e.Trees), stock[r.IntN(len(stock))])
		case 3:
			e.Trees = slices.Clone(e.Trees)[:r.IntN(len(e.Trees)+1)]
		case 4:
			l = slices.Insert(l, r.IntN(len(l)+1), api.Edit{Kind: add, Trees: []api.Tree{{Output: r.IntN(4), Nodes: []api.Node{leafOf(1)}}}})
		case 5:
			i := r.IntN(len(l))
			l = slices.Delete(l, i, i+1)
		}
	}
	return l
}

// Any patches of any ensembles: no call panics, and each says what the words say.
func TestAnyPatches(t *testing.T) {
	r := source()
	count := map[api.Errno]int{}
	for range 10000 {
		stock := someStock(r)
		a := someOf(r, stock, r.IntN(6))
		b := someChanged(r, a, stock)
		p := api.Patch{Old: headOf(a), New: headOf(b), Edits: someEdits(r, a.Trees, stock)}
		switch r.IntN(20) {
		case 0:
			p.Old = p.New
		case 1:
			p.New = api.Head{Outputs: r.IntN(5) - 2, Base: make([]int64, r.IntN(3))}
		case 2:
			a.Name = "no name"
		case 3:
			p.New.Features = []string{"a"}
		}
		isRight := isRightByWords(p)
		if (Check(p) == api.OK) != isRight || Check(p) != api.OK && Check(p) != api.ErrPatch {
			t.Fatalf("P28.2: Check(%v) = %d", p, Check(p))
		}
		if _, _, _, why := Size(p); why != Check(p) {
			t.Fatalf("P28.2: Size of %v: %d", p, why)
		}
		q, why := Invert(p)
		if why != Check(p) {
			t.Fatalf("P28.2: Invert(%v): %d", p, why)
		}
		if back, no := Invert(q); isRight && (no != api.OK || !samePatches(back, p)) {
			t.Fatalf("P28.6: Invert of Invert of %v: %v", p, back)
		}
		want, no := applyByWords(a, p)
		e, why := Apply(a, p)
		if why != no || !trees.Same(e, want) {
			t.Fatalf("P28.3: Apply(%v, %v) = %v, %d, not %v, %d", a, p, e, why, want, no)
		}
		count[why]++
		if why == api.OK { // a patch that was applied goes back, if it is right that way
			if back, why := Apply(e, q); why != api.OK || !trees.Same(back, a) {
				t.Fatalf("P28.6: back by %v: %v, %d, not %v", q, back, why, a)
			}
		}
	}
	for _, why := range []api.Errno{api.OK, api.ErrPatch, api.ErrModel} {
		if count[why] < 100 {
			t.Error("few of these:", why, count[why])
		}
	}
}

// score is a way to score a vector.
type score func(x []float64) ([]int64, api.Errno)

// engines are all ways to score an ensemble, in blocks of b trees.
func engines(t *testing.T, e api.Ensemble, b int) map[string]score {
	t.Helper()
	f, why := blocks.Compile(e, b)
	bytes, no := image.Encode(f)
	read, nor, _ := image.Decode(bytes)
	p, not := code.Compile(e)
	tidy, none := code.Tidy(p)
	m, never := bins.Compile(e)
	s, neither := slim.Slim(e)
	for _, why := range []api.Errno{why, no, nor, not, none, never, neither} {
		if why != api.OK {
			t.Fatal("P5: an ensemble is not taken:", why)
		}
	}
	run := func(p api.Program) score {
		return func(x []float64) ([]int64, api.Errno) {
			l, _, why := code.Run(p, x)
			return l, why
		}
	}
	one, _ := quick.New(f)
	again, _ := quick.New(read)
	eight, _ := lanes.New(f)
	return map[string]score{
		"descent":           func(x []float64) ([]int64, api.Errno) { return trees.Score(e, x) },
		"quick":             one.Score,
		"quick of an image": again.Score,
		"lanes": func(x []float64) ([]int64, api.Errno) {
			l, why, _ := eight.Score([][]float64{x})
			return slices.Concat(l...), why
		},
		"code":                   run(p),
		"code, tidied":           run(tidy),
		"bins":                   func(x []float64) ([]int64, api.Errno) { return bins.Run(m, x) },
		"descent of fewer nodes": func(x []float64) ([]int64, api.Errno) { return trees.Score(s, x) },
	}
}

// An ensemble that is patched or merged has one meaning, as any right one has: of a patched one it is that of the one it was made like.
func TestOneMeaning(t *testing.T) {
	r := source()
	for range 200 {
		stock := someStock(r)
		o := someOf(r, stock, r.IntN(6))
		a, b := someChanged(r, o, stock), someChanged(r, o, stock)
		p, _ := Diff(o, a)
		patched, why := Apply(o, p)
		if why != api.OK {
			t.Fatal("P28.6:", why)
		}
		means := map[*api.Ensemble]map[string]score{&a: engines(t, patched, 1+r.IntN(4))}
		if merged, why, _ := Merge(o, a, b); why == api.OK {
			means[&merged] = engines(t, merged, 1+r.IntN(4))
		}
		for e, ways := range means {
			for range 10 {
				x := make([]float64, len(e.Features))
				for i := range x {
					x[i] = someNumber(r)
				}
				want, _ := trees.Score(*e, x)
				for name, score := range ways {
					if l, why := score(x); why != api.OK || !slices.Equal(l, want) {
						t.Fatalf("P5: %s: %v of %v and %v, %d, not %v", name, l, e, x, why, want)
					}
				}
			}
		}
	}
}

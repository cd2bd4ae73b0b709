package patch

import (
	"fmt"
	"math"
	"math/rand/v2"
	"slices"
	"strconv"
	"strings"
	"testing"

	"thicket/api"
	"thicket/rules"
	"thicket/trees"
)

const (
	keep = api.EditKeep
	drop = api.EditDrop
	add  = api.EditAdd

	left  = api.SideLeft
	right = api.SideRight
)

func source() *rand.Rand { return rand.New(rand.NewPCG(28, 28)) }

func leafOf(v int64) api.Node { return api.Node{Kind: api.NodeLeaf, Value: v} }

// letter is a tree that is called by a letter: a leaf of its own value.
func letter(c rune) api.Tree { return api.Tree{Nodes: []api.Node{leafOf(int64(c))}} }

func letters(s string) []api.Tree {
	var l []api.Tree
	for _, c := range s {
		l = append(l, letter(c))
	}
	return l
}

// of is an ensemble of trees that are called by letters; all have one head.
func of(s string) api.Ensemble { return with(letters(s)...) }

func with(l ...api.Tree) api.Ensemble {
	return api.Ensemble{Name: "m", Features: []string{"a", "b"}, Outputs: 2, Base: []int64{5, -5}, Trees: l}
}

// stump asks for a feature whether a number is at most v; its leaves stand one way or the other.
func stump(feature int, v float64, l, r int64, isTurned bool) api.Tree {
	n := api.Node{Kind: api.NodeNumber, Feature: feature, Threshold: v, Missing: left, Left: 1, Right: 2}
	nodes := []api.Node{n, leafOf(l), leafOf(r)}
	if isTurned {
		nodes[0].Left, nodes[0].Right = 2, 1
		nodes[1], nodes[2] = nodes[2], nodes[1]
	}
	return api.Tree{Nodes: nodes}
}

func sorts(feature int, l, r int64, cats ...int) api.Tree {
	return api.Tree{Output: 1, Nodes: []api.Node{{Kind: api.NodeCats, Feature: feature, Cats: cats, Missing: right, Left: 1, Right: 2}, leafOf(l), leafOf(r)}}
}

// bent is an ensemble in which something is another.
func bent(e api.Ensemble, how func(e *api.Ensemble)) api.Ensemble {
	e = trees.Copy(e)
	how(&e)
	return e
}

// edit is one: letters of trees, or how many are kept.
func edit(kind api.EditKind, what any) api.Edit {
	if many, ok := what.(int); ok {
		return api.Edit{Kind: kind, Many: many}
	}
	return api.Edit{Kind: kind, Trees: letters(what.(string))}
}

// patchOf is a patch of ensembles of letters.
func patchOf(l ...api.Edit) api.Patch {
	return api.Patch{Old: headOf(of("")), New: headOf(of("")), Edits: l}
}

// lettersOf calls trees by their letters; one that has none by a mark.
func lettersOf(l []api.Tree) string {
	s := ""
	for _, t := range l {
		c := '?'
		if len(t.Nodes) == 1 && trees.Alike(t, letter(rune(t.Nodes[0].Value))) {
			c = rune(t.Nodes[0].Value)
		}
		s += string(c)
	}
	return s
}

// said are edits as a text, with all that they have.
func said(l []api.Edit) string {
	var out []string
	for _, e := range l {
		word := map[api.EditKind]string{keep: "keep", drop: "drop", add: "add"}[e.Kind]
		if e.Many != 0 {
			word += " " + strconv.Itoa(e.Many)
		}
		if len(e.Trees) > 0 {
			word += " " + lettersOf(e.Trees)
		}
		out = append(out, word)
	}
	return strings.Join(out, ", ")
}

func isZeroHead(h api.Head) bool {
	return h.Name == "" && h.Features == nil && h.Outputs == 0 && h.Base == nil
}

func isZeroPatch(p api.Patch) bool { return isZeroHead(p.Old) && isZeroHead(p.New) && p.Edits == nil }

func isZeroEnsemble(e api.Ensemble) bool { return isZeroHead(headOf(e)) && e.Trees == nil }

func sameHeads(a, b api.Head) bool {
	return a.Name == b.Name && slices.Equal(a.Features, b.Features) && a.Outputs == b.Outputs && slices.Equal(a.Base, b.Base)
}

func samePatches(a, b api.Patch) bool {
	return sameHeads(a.Old, b.Old) && sameHeads(a.New, b.New) && slices.EqualFunc(a.Edits, b.Edits, func(x, y api.Edit) bool {
		return x.Kind == y.Kind && x.Many == y.Many && slices.EqualFunc(x.Trees, y.Trees, trees.Alike)
	})
}

func isDiff(t *testing.T, what string, a, b api.Ensemble, want string) {
	t.Helper()
	p, why := Diff(a, b)
	if why != api.OK || said(p.Edits) != want || !sameHeads(p.Old, headOf(a)) || !sameHeads(p.New, headOf(b)) {
		t.Errorf("P28.1: %s: %s, %d, not %s", what, said(p.Edits), why, want)
	}
}

func noDiff(t *testing.T, what string, a, b api.Ensemble, want api.Errno) {
	t.Helper()
	p, why := Diff(a, b)
	if why != want {
		t.Errorf("P28.1: %s: %d, not %d", what, why, want)
	}
	if !isZeroPatch(p) {
		t.Errorf("P2: Diff: %s: %v beside an error", what, p)
	}
}

func isSize(t *testing.T, what string, p api.Patch, kept, dropped, added int) {
	t.Helper()
	if k, d, a, why := Size(p); why != api.OK || k != kept || d != dropped || a != added {
		t.Errorf("P28.2: Size: %s: %d, %d, %d, %d, not %d, %d, %d", what, k, d, a, why, kept, dropped, added)
	}
}

func isApplied(t *testing.T, what string, a api.Ensemble, p api.Patch, want api.Ensemble) {
	t.Helper()
	if e, why := Apply(a, p); why != api.OK || !trees.Same(e, want) {
		t.Errorf("P28.3: %s: %v, %d, not %v", what, e, why, want)
	}
}

func noApply(t *testing.T, what string, a api.Ensemble, p api.Patch, want api.Errno) {
	t.Helper()
	e, why := Apply(a, p)
	if why != want {
		t.Errorf("P28.3: %s: %d, not %d", what, why, want)
	}
	if !isZeroEnsemble(e) {
		t.Errorf("P2: Apply: %s: %v beside an error", what, e)
	}
}

// isMerged merges both ways round.
func isMerged(t *testing.T, what string, o, a, b, want api.Ensemble) {
	t.Helper()
	for _, l := range [][2]api.Ensemble{{a, b}, {b, a}} {
		if e, why, at := Merge(o, l[0], l[1]); why != api.OK || at != 0 || !trees.Same(e, want) {
			t.Errorf("P28.4, P28.8: %s: %v, %d, %d, not %v", what, e, why, at, want)
		}
	}
}

func noMerge(t *testing.T, what string, o, a, b api.Ensemble, want api.Errno, place int) {
	t.Helper()
	for _, l := range [][2]api.Ensemble{{a, b}, {b, a}} {
		e, why, at := Merge(o, l[0], l[1])
		if why != want || at != place {
			t.Errorf("P28.4: %s: %d at %d, not %d at %d", what, why, at, want, place)
		}
		if !isZeroEnsemble(e) {
			t.Errorf("P2: Merge: %s: %v beside an error", what, e)
		}
	}
}

func TestExamples(t *testing.T) {
	isDiff(t, "example 1", of("ABC"), of("AXC"), "keep 1, drop B, add X, keep 1")
	isDiff(t, "example 1", of("AB"), of("BA"), "drop A, keep 1, add A")
	isDiff(t, "example 1", of("A"), of("A"), "keep 1")
	isDiff(t, "example 1", of(""), of(""), "")

	p, _ := Diff(of("ABC"), of("AXC"))
	isSize(t, "example 2", p, 2, 1, 1)
	q, why := Invert(p)
	if why != api.OK || said(q.Edits) != "keep 1, add B, drop X, keep 1" {
		t.Errorf("P28.2: example 2: %s, %d", said(q.Edits), why)
	}
	isApplied(t, "example 2", of("AXC"), q, of("ABC"))

	noApply(t, "example 3", of("AB"), patchOf(edit(keep, 1)), api.ErrPatch)
	noApply(t, "example 3", of("AB"), patchOf(edit(keep, 2), edit(keep, 1)), api.ErrPatch)

	isMerged(t, "example 4", of("AB"), of("AXB"), of("ABY"), of("AXBY"))
	noMerge(t, "example 4", of("AB"), of("AXB"), of("AZB"), api.ErrClash, 1)
	isMerged(t, "example 4", of("AB"), of("B"), of("A"), of(""))
	isMerged(t, "example 4", of("A"), of("XA"), of("XA"), of("XA"))
}

func TestDiff(t *testing.T) {
	for _, c := range [][3]string{
		{"", "AB", "add AB"}, {"AB", "", "drop AB"}, {"A", "B", "drop A, add B"}, {"AB", "XY", "drop AB, add XY"},
		{"ABCD", "ABCD", "keep 4"}, {"ABCD", "BD", "drop A, keep 1, drop C, keep 1"}, {"BD", "ABCD", "add A, keep 1, add C, keep 1"},
		{"A", "AA", "keep 1, add A"}, {"AA", "A", "keep 1, drop A"}, {"AAA", "A", "keep 1, drop AA"}, {"AAB", "AB", "keep 1, drop A, keep 1"}, {"AB", "AAB", "keep 1, add A, keep 1"}, // trees that come twice
		{"ABA", "BAB", "drop A, keep 2, add B"}, {"ABAB", "BABA", "drop A, keep 3, add A"}, {"ABC", "CAB", "add C, keep 2, drop C"}, {"ABC", "BCA", "drop A, keep 2, add A"}, {"ABC", "CBA", "drop AB, keep 1, add BA"}, // several ways to keep as many
		{"AX", "BXX", "drop A, add B, keep 1, add X"}, {"ABCABBA", "CBABAC", "drop AB, keep 1, drop A, keep 1, add A, keep 2, add C"}, {"XAYB", "ZAWB", "drop X, add Z, keep 1, drop Y, add W, keep 1"},
	} {
		isDiff(t, c[0]+" and "+c[1], of(c[0]), of(c[1]), c[2])
	}
}

// Trees are one as they stand: bit for bit, each for its output, numbered the same way.
func TestTreesThatAreOne(t *testing.T) {
	minus0 := math.Copysign(0, -1)
	same := stump(0, 0.5, 1, 2, false)
	isDiff(t, "the same", with(same), with(stump(0, 0.5, 1, 2, false)), "keep 1")
	isDiff(t, "the same, turned", with(stump(0, 0.5, 1, 2, true)), with(stump(0, 0.5, 1, 2, true)), "keep 1")
	isDiff(t, "the same categories", with(sorts(0, 1, 2, 3, 5)), with(sorts(0, 1, 2, 3, 5)), "keep 1")
	for what, other := range map[string]api.Tree{
		"numbered anew": stump(0, 0.5, 1, 2, true), "a feature": stump(1, 0.5, 1, 2, false), "a threshold": stump(0, 0.25, 1, 2, false), "a leaf": stump(0, 0.5, 1, 3, false), "a node fewer": letter('A'),
	} {
		isDiff(t, what, with(same), with(other), "drop ?, add "+lettersOf([]api.Tree{other}))
	}
	isDiff(t, "noughts", with(stump(0, 0, 1, 2, false)), with(stump(0, minus0, 1, 2, false)), "drop ?, add ?")
	isDiff(t, "categories", with(sorts(0, 1, 2, 3, 5)), with(sorts(0, 1, 2, 3)), "drop ?, add ?")
	isDiff(t, "one category", with(sorts(0, 1, 2, 3)), with(sorts(0, 1, 2, 4)), "drop ?, add ?")
	missing, output := stump(0, 0.5, 1, 2, false), stump(0, 0.5, 1, 2, false)
	missing.Nodes[0].Missing, output.Output = right, 1
	isDiff(t, "where NaN goes", with(same), with(missing), "drop ?, add ?")
	isDiff(t, "an output", with(same), with(output), "drop ?, add ?")
	isDiff(t, "both ways", with(same, missing, output), with(output, same, missing), "add ?, keep 2, drop ?")

	twin, _ := trees.Canon(stump(0, 0.5, 1, 2, true))
	if !trees.Alike(twin, same) {
		t.Fatal("these are alike when numbered anew")
	}
	noApply(t, "a tree that is numbered otherwise is dropped", with(same), patchOf(api.Edit{Kind: drop, Trees: []api.Tree{stump(0, 0.5, 1, 2, true)}}), api.ErrPatch)
	noMerge(t, "trees that are numbered otherwise are added", of("A"), with(letter('A'), same), with(letter('A'), stump(0, 0.5, 1, 2, true)), api.ErrClash, 1)
	isMerged(t, "a tree is numbered anew", with(same), with(stump(0, 0.5, 1, 2, true)), with(same), with(stump(0, 0.5, 1, 2, true)))
}

// wrongEnsembles break a rule each.
func wrongEnsembles() map[string]api.Ensemble {
	all := map[string]api.Ensemble{"nothing": {}}
	for what, how := range map[string]func(e *api.Ensemble){
		"the name":        func(e *api.Ensemble) { e.Name = "" },
		"no features":     func(e *api.Ensemble) { e.Features = nil },
		"a feature":       func(e *api.Ensemble) { e.Features[1] = "b c" },
		"a feature twice": func(e *api.Ensemble) { e.Features[1] = "a" },
		"no outputs":      func(e *api.Ensemble) { e.Outputs = 0 },
		"the base":        func(e *api.Ensemble) { e.Base = e.Base[:1] },
		"an output":       func(e *api.Ensemble) { e.Trees[1].Output = 2 },
		"no nodes":        func(e *api.Ensemble) { e.Trees[1].Nodes = nil },
		"a kind":          func(e *api.Ensemble) { e.Trees[1].Nodes[0].Kind = 77 },
		"a field":         func(e *api.Ensemble) { e.Trees[1].Nodes[0].Left = -1 },
		"a ring":          func(e *api.Ensemble) { e.Trees[0] = stump(0, 1, 2, 3, false); e.Trees[0].Nodes[0].Left = 2 },
		"the sum":         func(e *api.Ensemble) { e.Base[0] = api.MaxSum },
		"a leaf":          func(e *api.Ensemble) { e.Trees[1].Nodes[0].Value = math.MinInt64 },
	} {
		all[what] = bent(of("AB"), how)
	}
	return all
}

func TestWrongEnsembles(t *testing.T) {
	fine, p := of("AB"), patchOf(edit(keep, 2))
	other := bent(fine, func(e *api.Ensemble) { e.Name = "n" })
	third := bent(fine, func(e *api.Ensemble) { e.Name = "o" })
	for what, wrong := range wrongEnsembles() {
		if rules.Valid(wrong) {
			t.Fatal(what, "is right")
		}
		noDiff(t, what, wrong, fine, api.ErrModel)
		noDiff(t, what, fine, wrong, api.ErrModel)
		noDiff(t, what, wrong, wrong, api.ErrModel)
		noDiff(t, what+", and too many", wrong, most(api.MaxDiff+1), api.ErrModel)
		noDiff(t, what+", and too many", most(api.MaxDiff+1), wrong, api.ErrModel)
		noApply(t, what, wrong, p, api.ErrModel)
		noApply(t, what+", its own head", wrong, api.Patch{Old: headOf(wrong), New: headOf(fine), Edits: p.Edits}, api.ErrModel)
		noApply(t, what+", and a wrong patch", wrong, patchOf(edit(keep, 0)), api.ErrModel)
		noMerge(t, what+", the first", wrong, fine, fine, api.ErrModel, 0)
		noMerge(t, what+", the second or third", fine, wrong, fine, api.ErrModel, 0)
		noMerge(t, what+", and too many", most(api.MaxDiff+1), wrong, fine, api.ErrModel, 0)
		noMerge(t, what+", and heads that clash", wrong, other, third, api.ErrModel, 0)
		noMerge(t, what+", and trees that clash", fine, wrong, of("ABX"), api.ErrModel, 0)
	}
}

// most is an ensemble of many trees.
func most(many int) api.Ensemble {
	e := of("")
	for i := range many {
		e.Trees = append(e.Trees, letter(rune(i%1000)))
	}
	return e
}

func TestMostTrees(t *testing.T) {
	fine, more := most(api.MaxDiff), most(api.MaxDiff+1)
	if p, why := Diff(fine, fine); why != api.OK || len(p.Edits) != 1 || p.Edits[0].Many != api.MaxDiff {
		t.Error("P28.1: MaxDiff trees:", why)
	}
	other := most(api.MaxDiff)
	slices.Reverse(other.Trees)
	p, why := Diff(fine, other)
	kept, dropped, added, _ := Size(p)
	if e, no := Apply(fine, p); why != api.OK || no != api.OK || !trees.Same(e, other) || kept+dropped != api.MaxDiff || kept+added != api.MaxDiff {
		t.Error("P28.1, P28.6: MaxDiff trees:", why, no, kept, dropped, added)
	}
	noDiff(t, "one more", more, of(""), api.ErrMany)
	noDiff(t, "one more", of(""), more, api.ErrMany)
	noDiff(t, "one more on both sides", more, more, api.ErrMany)
	if e, why, at := Merge(fine, fine, other); why != api.OK || at != 0 || !trees.Same(e, other) {
		t.Error("P28.4: MaxDiff trees:", why, at)
	}
	noMerge(t, "one more, the first", more, fine, fine, api.ErrMany, 0)
	noMerge(t, "one more, the second or third", fine, more, of(""), api.ErrMany, 0)
	clash, third := bent(of("A"), func(e *api.Ensemble) { e.Name = "n" }), bent(of("A"), func(e *api.Ensemble) { e.Name = "o" })
	noMerge(t, "one more, and heads that clash", more, clash, third, api.ErrMany, 0)
	// Patches are not held to it.
	isApplied(t, "one more", more, patchOf(edit(keep, api.MaxDiff+1)), more)
	isApplied(t, "one more, dropped", more, patchOf(api.Edit{Kind: drop, Trees: more.Trees}), of(""))
	isApplied(t, "one more, added", of(""), patchOf(api.Edit{Kind: add, Trees: more.Trees}), more)
	// A merged ensemble may have more, too.
	behind, ahead := of("ZA"), of("AZ")
	behind.Trees = append(fine.Trees[:api.MaxDiff-1:api.MaxDiff-1], behind.Trees[1])
	ahead.Trees = append(ahead.Trees[:1:1], fine.Trees[:api.MaxDiff-1]...)
	o := with(fine.Trees[:api.MaxDiff-1]...)
	want := with(append(ahead.Trees[:api.MaxDiff:api.MaxDiff], behind.Trees[api.MaxDiff-1])...)
	isMerged(t, "both add to MaxDiff - 1", o, behind, ahead, want)
}

// wrongPatches are not right, whatever they are of.
func wrongPatches() map[string][]api.Edit {
	ab := letters("AB")
	return map[string][]api.Edit{
		"no kind":                         {{Kind: api.EditNone}},
		"no kind, but a number":           {{Kind: api.EditNone, Many: 2}},
		"no kind, but trees":              {{Kind: api.EditNone, Trees: ab}},
		"a kind beyond":                   {{Kind: add + 1, Many: 2}},
		"a kind beyond, with trees":       {{Kind: add + 1, Trees: ab}},
		"the last kind that can be":       {{Kind: 255, Many: 2}},
		"none kept":                       {edit(keep, 0)},
		"fewer than none kept":            {edit(keep, -1)},
		"far fewer than none kept":        {edit(keep, math.MinInt)},
		"trees kept":                      {{Kind: keep, Trees: ab}},
		"trees kept beside a number":      {{Kind: keep, Many: 2, Trees: ab}},
		"no trees dropped":                {{Kind: drop}},
		"an empty list dropped":           {{Kind: drop, Trees: []api.Tree{}}},
		"a number dropped":                {{Kind: drop, Many: 2}},
		"trees dropped beside a number":   {{Kind: drop, Many: 2, Trees: ab}},
		"trees dropped beside one below":  {{Kind: drop, Many: -1, Trees: ab}},
		"no trees added":                  {edit(keep, 2), {Kind: add}},
		"an empty list added":             {edit(keep, 2), {Kind: add, Trees: []api.Tree{}}},
		"a number added":                  {edit(keep, 2), {Kind: add, Many: 1}},
		"trees added beside a number":     {edit(keep, 2), {Kind: add, Many: 1, Trees: ab}},
		"kept and kept":                   {edit(keep, 1), edit(keep, 1)},
		"dropped and dropped":             {edit(drop, "A"), edit(drop, "B")},
		"added and added":                 {edit(add, "A"), edit(add, "B"), edit(keep, 2)},
		"two neighbours far behind":       {edit(add, "A"), edit(keep, 1), edit(drop, "B"), edit(add, "X"), edit(add, "Y")},
		"one wrong behind many right":     {edit(keep, 1), edit(add, "X"), edit(drop, "B"), edit(keep, 0)},
		"one wrong ahead of right ones":   {{Kind: 9}, edit(keep, 2)},
		"two of no kind":                  {{}, {}},
		"one of no kind between two kept": {edit(keep, 1), {}, edit(keep, 1)},
	}
}

func TestWrongPatches(t *testing.T) {
	a := of("AB")
	for what, l := range wrongPatches() {
		for _, old := range []api.Head{headOf(a), {}} {
			p := api.Patch{Old: old, New: headOf(a), Edits: l}
			if why := Check(p); why != api.ErrPatch {
				t.Errorf("P28.2: Check: %s: %d", what, why)
			}
			if k, d, n, why := Size(p); why != api.ErrPatch || k != 0 || d != 0 || n != 0 {
				t.Errorf("P28.2: Size: %s: %d, %d, %d, %d", what, k, d, n, why)
			}
			if q, why := Invert(p); why != api.ErrPatch || !isZeroPatch(q) {
				t.Errorf("P28.2: Invert: %s: %v, %d", what, q, why)
			}
			noApply(t, what, a, p, api.ErrPatch)
			p.New = api.Head{}
			noApply(t, what+", and a head that breaks a rule", a, p, api.ErrPatch)
		}
	}
}

// Heads and trees of a patch are not looked at, but by Apply.
func TestRightPatches(t *testing.T) {
	odd := []api.Tree{{}, {Output: -5, Nodes: []api.Node{{Kind: 99, Cats: []int{3, 1}}}}}
	for what, c := range map[string]struct {
		edits                []api.Edit
		kept, dropped, added int
	}{
		"no edits":                   {nil, 0, 0, 0},
		"an empty list":              {[]api.Edit{}, 0, 0, 0},
		"one kept":                   {[]api.Edit{edit(keep, 1)}, 1, 0, 0},
		"an empty list of trees":     {[]api.Edit{{Kind: keep, Many: 3, Trees: []api.Tree{}}}, 3, 0, 0},
		"as many as can be":          {[]api.Edit{edit(keep, math.MaxInt)}, math.MaxInt, 0, 0},
		"dropped":                    {[]api.Edit{edit(drop, "ABC")}, 0, 3, 0},
		"added":                      {[]api.Edit{edit(add, "AB")}, 0, 0, 2},
		"added, then dropped":        {[]api.Edit{edit(add, "AB"), edit(drop, "C")}, 0, 1, 2},
		"all kinds, again and again": {[]api.Edit{edit(keep, 2), edit(drop, "A"), edit(keep, 3), edit(add, "XYZ"), edit(drop, "BC"), edit(add, "V")}, 5, 3, 4},
		"odd trees":                  {[]api.Edit{{Kind: drop, Trees: odd}, {Kind: add, Trees: odd[:1]}}, 0, 2, 1},
		"a sum that wraps":           {[]api.Edit{edit(keep, math.MaxInt), edit(add, "A"), edit(keep, 1)}, math.MinInt, 0, 1},
		"a sum that wraps to 0":      {[]api.Edit{edit(keep, math.MaxInt), edit(add, "A"), edit(keep, math.MaxInt), edit(drop, "A"), edit(keep, 2)}, 0, 1, 1},
	} {
		p := api.Patch{Old: api.Head{Name: "no name", Features: []string{"", ""}, Outputs: -1}, New: api.Head{Base: []int64{1, 2}}, Edits: c.edits}
		if why := Check(p); why != api.OK {
			t.Errorf("P28.2: Check: %s: %d", what, why)
		}
		isSize(t, what, p, c.kept, c.dropped, c.added)
		q, why := Invert(p)
		if why != api.OK || !sameHeads(q.Old, p.New) || !sameHeads(q.New, p.Old) {
			t.Errorf("P28.2: Invert: %s: %v, %d", what, q, why)
		}
		isSize(t, what+", inverted", q, c.kept, c.added, c.dropped)
		for i, e := range p.Edits {
			turned := map[api.EditKind]api.EditKind{keep: keep, drop: add, add: drop}[e.Kind]
			if len(q.Edits) != len(p.Edits) || q.Edits[i].Kind != turned || q.Edits[i].Many != e.Many || !slices.EqualFunc(q.Edits[i].Trees, e.Trees, trees.Alike) {
				t.Errorf("P28.2: Invert: %s: %v of %v", what, q, p)
			}
		}
		if back, why := Invert(q); why != api.OK || !samePatches(back, p) {
			t.Errorf("P28.6: Invert of Invert: %s: %v, %d", what, back, why)
		}
	}
}

func TestApply(t *testing.T) {
	a := of("ABC")
	for _, c := range []struct {
		edits []api.Edit
		want  string
	}{
		{[]api.Edit{edit(keep, 3)}, "ABC"},
		{[]api.Edit{edit(drop, "ABC")}, ""},
		{[]api.Edit{edit(add, "XY"), edit(keep, 3)}, "XYABC"},
		{[]api.Edit{edit(keep, 3), edit(add, "X")}, "ABCX"},
		{[]api.Edit{edit(keep, 1), edit(add, "X"), edit(keep, 1), edit(drop, "C")}, "AXB"},
		{[]api.Edit{edit(drop, "A"), edit(add, "A"), edit(keep, 2)}, "ABC"}, // needless, but right
		{[]api.Edit{edit(add, "C"), edit(drop, "AB"), edit(keep, 1)}, "CC"},
		{[]api.Edit{edit(add, "A"), edit(drop, "A"), edit(add, "B"), edit(drop, "B"), edit(add, "C"), edit(drop, "C")}, "ABC"},
	} {
		isApplied(t, said(c.edits), a, patchOf(c.edits...), of(c.want))
	}
	isApplied(t, "no trees, no edits", of(""), patchOf(), of(""))
	isApplied(t, "no trees", of(""), patchOf(edit(add, "A")), of("A"))

	for what, l := range map[string][]api.Edit{
		"too few: none":             nil,
		"too few kept":              {edit(keep, 2)},
		"too few dropped":           {edit(drop, "AB")},
		"too few, and some added":   {edit(keep, 1), edit(add, "XY")},
		"too many kept":             {edit(keep, 4)},
		"too many dropped":          {edit(drop, "ABCD")},
		"too many, kept in pieces":  {edit(keep, 2), edit(add, "X"), edit(keep, 2)},
		"too many, all but one":     {edit(keep, 3), edit(drop, "A")},
		"far too many":              {edit(keep, math.MaxInt)},
		"a sum that wraps to three": {edit(keep, math.MaxInt), edit(add, "A"), edit(keep, math.MaxInt), edit(add, "A"), edit(keep, 5)},
		"a sum that wraps at once":  {edit(keep, 3), edit(add, "A"), edit(keep, math.MaxInt), edit(add, "A"), edit(keep, math.MaxInt), edit(add, "A"), edit(keep, 2)},
		"another dropped":           {edit(drop, "X"), edit(keep, 2)},
		"another dropped behind":    {edit(keep, 2), edit(drop, "A")},
		"the second of two another": {edit(drop, "AX"), edit(keep, 1)},
		"dropped in another order":  {edit(drop, "BA"), edit(keep, 1)},
	} {
		noApply(t, what, a, patchOf(l...), api.ErrPatch)
	}
	noApply(t, "one kept of none", of(""), patchOf(edit(keep, 1)), api.ErrPatch)
	noApply(t, "one dropped of none", of(""), patchOf(edit(drop, "A")), api.ErrPatch)
}

// heads are changes of a head, field by field.
func heads() map[string]func(h *api.Head) {
	return map[string]func(h *api.Head){
		"Name":                    func(h *api.Head) { h.Name = "n" },
		"Features":                func(h *api.Head) { h.Features = []string{"a", "c"} },
		"Features in their order": func(h *api.Head) { h.Features = []string{"b", "a"} },
		"Features, one more":      func(h *api.Head) { h.Features = []string{"a", "b", "c"} },
		"Features, one fewer":     func(h *api.Head) { h.Features = []string{"a"} },
		"Outputs":                 func(h *api.Head) { h.Outputs = 1 },
		"Base":                    func(h *api.Head) { h.Base = []int64{5, 5} },
		"Base, one more":          func(h *api.Head) { h.Base = []int64{5, -5, 0} },
		"Base, one fewer":         func(h *api.Head) { h.Base = []int64{5} },
		"no Name":                 func(h *api.Head) { h.Name = "" },
		"no Features":             func(h *api.Head) { h.Features = nil },
		"no Base":                 func(h *api.Head) { h.Base = nil },
		"nothing":                 func(h *api.Head) { *h = api.Head{} },
	}
}

func TestHeads(t *testing.T) {
	a := of("AB")
	for what, how := range heads() {
		p := patchOf(edit(keep, 2))
		how(&p.Old)
		noApply(t, "another Old: "+what, a, p, api.ErrPatch)
		p.New = p.Old
		noApply(t, "another Old and New: "+what, a, p, api.ErrPatch)
		p.Old = headOf(a)
		want := ensembleOf(p.New, a.Trees)
		if rules.Valid(want) {
			isApplied(t, "another New: "+what, a, p, want)
			isDiff(t, "another head: "+what, a, want, "keep 2")
			isDiff(t, "another head: "+what, want, a, "keep 2")
		} else {
			noApply(t, "a New that breaks a rule: "+what, a, p, api.ErrModel)
		}
		p.Edits = []api.Edit{edit(keep, 1)}
		noApply(t, "too few trees, and another New: "+what, a, p, api.ErrPatch)
	}
}

// What comes of a patch breaks a rule.
func TestWrongResults(t *testing.T) {
	a := of("AB")
	full := bent(a, func(e *api.Ensemble) { e.Base[0] = api.MaxSum - 1 - 'A' - 'B' })
	p := api.Patch{Old: headOf(full), New: headOf(full), Edits: []api.Edit{edit(keep, 2)}}
	isApplied(t, "a room that is full", full, p, full)
	p.Edits = append(p.Edits, api.Edit{Kind: add, Trees: []api.Tree{{Output: 1, Nodes: []api.Node{leafOf(math.MaxInt32)}}}})
	if e, why := Apply(full, p); why != api.OK || len(e.Trees) != 3 {
		t.Error("P28.3: another output's room:", e, why)
	}
	p.Edits[1].Trees[0].Output = 0
	noApply(t, "no room", full, p, api.ErrModel)
	p.Edits[1].Trees[0].Nodes[0].Value = 0
	if e, why := Apply(full, p); why != api.OK || len(e.Trees) != 3 {
		t.Error("P28.3: a leaf of 0 needs no room:", e, why)
	}
	for what, wrong := range map[string]api.Tree{
		"an output": {Output: 2, Nodes: []api.Node{leafOf(1)}}, "no nodes": {}, "a feature": stump(2, 1, 2, 3, false), "a threshold": stump(0, math.NaN(), 2, 3, false), "categories": sorts(0, 1, 2, 5, 3),
	} {
		noApply(t, "a tree is added that breaks a rule: "+what, a, patchOf(edit(keep, 2), api.Edit{Kind: add, Trees: []api.Tree{letter('X'), wrong}}), api.ErrModel)
		noApply(t, "and the head is another: "+what, bent(a, func(e *api.Ensemble) { e.Name = "n" }), patchOf(edit(keep, 2), api.Edit{Kind: add, Trees: []api.Tree{wrong}}), api.ErrPatch)
	}

	many := most(api.MaxTrees)
	isApplied(t, "MaxTrees", many, patchOf(edit(keep, api.MaxTrees)), many)
	noApply(t, "one more", many, patchOf(edit(keep, api.MaxTrees), edit(add, "A")), api.ErrModel)
	fewer := with(many.Trees[:api.MaxTrees-1]...)
	isApplied(t, "MaxTrees by one that is added", fewer, patchOf(edit(keep, api.MaxTrees-1), api.Edit{Kind: add, Trees: many.Trees[api.MaxTrees-1:]}), many)
	noApply(t, "one more, by two that are added", fewer, patchOf(edit(keep, api.MaxTrees-1), edit(add, "AB")), api.ErrModel)

	// A head that the kept trees don't go with.
	p = api.Patch{Old: headOf(with(stump(1, 0.5, 1, 2, false))), New: headOf(a), Edits: []api.Edit{edit(keep, 1)}}
	p.New.Features = []string{"a"}
	noApply(t, "a feature that is gone", with(stump(1, 0.5, 1, 2, false)), p, api.ErrModel)
	p.New = headOf(a)
	p.New.Outputs, p.New.Base = 1, []int64{0}
	isApplied(t, "an output that no tree has", with(stump(1, 0.5, 1, 2, false)), p, ensembleOf(p.New, []api.Tree{stump(1, 0.5, 1, 2, false)}))
	noApply(t, "an output that is gone", with(sorts(1, 1, 2, 3)), p, api.ErrModel)
}

func TestMergeHeads(t *testing.T) {
	o := of("AB")
	change := func(how func(h *api.Head)) api.Ensemble {
		h := headOf(trees.Copy(o))
		how(&h)
		return ensembleOf(h, o.Trees)
	}
	sets := map[string][2]func(h *api.Head){
		"Name":     {func(h *api.Head) { h.Name = "n" }, func(h *api.Head) { h.Name = "o" }},
		"Features": {func(h *api.Head) { h.Features[1] = "c" }, func(h *api.Head) { h.Features = append(h.Features, "d") }},
		"Outputs and Base": {
			func(h *api.Head) { h.Outputs, h.Base = 3, []int64{5, -5, 0} },
			func(h *api.Head) { h.Outputs, h.Base = 1, []int64{5} },
		},
		"Base": {func(h *api.Head) { h.Base[0] = 6 }, func(h *api.Head) { h.Base[1] = 6 }},
	}
	for what, l := range sets {
		one, other := change(l[0]), change(l[1])
		isMerged(t, what+" by one", o, one, o, one)
		isMerged(t, what+" by the other one", o, o, other, other)
		isMerged(t, what+" by both alike", o, one, trees.Copy(one), one)
		noMerge(t, what+" by both unlike", o, one, other, api.ErrClash, -1)
		isMerged(t, what+" back by both", one, o, o, o)
		clash := bent(other, func(e *api.Ensemble) { e.Trees = letters("XAB") })
		noMerge(t, what+" by both unlike, and trees", o, bent(one, func(e *api.Ensemble) { e.Trees = letters("YAB") }), clash, api.ErrClash, -1)
		for second, m := range sets {
			if second == what || strings.Contains(second, "Base") && strings.Contains(what, "Base") {
				continue
			}
			both := change(func(h *api.Head) { l[0](h); m[1](h) })
			isMerged(t, what+" by one, "+second+" by the other one", o, one, change(m[1]), both)
		}
	}
	// Outputs alike, Base unlike, and the other way round.
	three := change(func(h *api.Head) { h.Outputs, h.Base = 3, []int64{5, -5, 0} })
	noMerge(t, "Outputs alike, Base unlike", o, three, change(func(h *api.Head) { h.Outputs, h.Base = 3, []int64{5, -5, 1} }), api.ErrClash, -1)
	noMerge(t, "Base by both, Outputs by one", o, three, change(func(h *api.Head) { h.Base[0] = 6 }), api.ErrClash, -1)
}

func TestMergeTrees(t *testing.T) {
	for _, c := range [][4]string{
		{"", "", "", ""}, {"", "A", "", "A"}, {"", "A", "A", "A"}, {"A", "", "", ""}, {"A", "", "A", ""}, // no trees on some sides
		{"ABC", "AC", "ABC", "AC"}, {"ABC", "AC", "AC", "AC"}, {"ABC", "BC", "AB", "B"}, {"ABC", "C", "A", ""}, // dropped by one, by both
		{"ABC", "XABC", "ABC", "XABC"}, {"ABC", "AXBC", "ABCY", "AXBCY"}, {"ABC", "XABCZ", "AYBC", "XAYBCZ"}, // added at places of their own
		{"ABC", "AXYBC", "AXYBC", "AXYBC"}, {"ABC", "XABYC", "XABYC", "XABYC"}, {"ABC", "XABC", "XABCY", "XABCY"}, // by both alike
		{"ABC", "AXC", "ABC", "AXC"}, {"ABC", "AXC", "AXC", "AXC"}, {"ABC", "AXC", "AC", "AXC"}, {"ABC", "XBC", "ABY", "XBY"}, {"ABC", "AXBC", "AYC", "AXYC"}, // one in another's place
		{"AB", "BA", "AB", "BA"}, {"AB", "BA", "BA", "BA"}, {"ABC", "BCA", "BC", "BCA"}, // a tree that moves
		{"AA", "A", "AA", "A"}, {"AA", "AAA", "AAA", "AAA"}, {"AA", "A", "AAA", "AA"}, // trees that come twice
	} {
		isMerged(t, strings.Join(c[:3], " "), of(c[0]), of(c[1]), of(c[2]), of(c[3]))
	}
	for _, c := range []struct {
		o, a, b string
		at      int
	}{
		{"", "A", "B", 0}, {"", "A", "AB", 0}, {"", "AB", "A", 0}, {"", "AB", "BA", 0}, {"A", "XA", "YA", 0}, {"A", "AX", "AY", 1}, {"A", "X", "Y", 1},
		{"ABC", "ABCX", "ABCY", 3}, {"ABC", "ABCXY", "ABCX", 3}, {"ABC", "AXC", "AYC", 2},
		{"ABC", "XAYBZC", "UAVBWC", 0}, {"ABC", "XAYBZC", "XAVBWC", 1}, {"ABC", "XAYBZC", "XAYBWC", 2}, {"ABC", "AYBZC", "XABWC", 2}, // at several places: the least
		{"AB", "BXA", "BYA", 2},
	} {
		noMerge(t, c.o+" "+c.a+" "+c.b, of(c.o), of(c.a), of(c.b), api.ErrClash, c.at)
	}
}

func TestWrongMerges(t *testing.T) {
	o := bent(of("AB"), func(e *api.Ensemble) { e.Base[0] = api.MaxSum - 1 - 'A' - 'B' - 100 })
	grown := func(s string) api.Ensemble { return ensembleOf(headOf(o), letters(s)) }
	isMerged(t, "room for one", o, grown("APB"), grown("AB"), grown("APB"))
	noMerge(t, "no room for both", o, grown("APB"), grown("ABQ"), api.ErrModel, 0)
	isMerged(t, "room for both, as A is dropped", o, grown("PB"), grown("BQ"), grown("PBQ"))

	narrow := bent(of("AB"), func(e *api.Ensemble) { e.Features = []string{"a"} })
	asks := with(append(letters("AB"), stump(1, 0.5, 1, 2, false))...)
	noMerge(t, "a feature is gone that the other one asks", of("AB"), narrow, asks, api.ErrModel, 0)
	fewer := bent(of("AB"), func(e *api.Ensemble) { e.Outputs, e.Base = 1, []int64{5} })
	says := with(append(letters("AB"), sorts(1, 1, 2, 3))...)
	noMerge(t, "an output is gone that the other one says", of("AB"), fewer, says, api.ErrModel, 0)
	raised := bent(of("AB"), func(e *api.Ensemble) { e.Base[0] = api.MaxSum - 1 - 'A' - 'B' })
	noMerge(t, "a Base that leaves no room for a tree of the other one", of("AB"), raised, of("ABX"), api.ErrModel, 0)
	noMerge(t, "trees that clash come ahead of it", of("AB"), bent(raised, func(e *api.Ensemble) { e.Trees = letters("0AB"); e.Base[0] -= '0' }), of("XAB"), api.ErrClash, 0)
}

func TestThereAndBack(t *testing.T) {
	all := []string{"", "A", "B", "AB", "BA", "ABC", "AXC", "CBA", "AAB", "ABAB", "BABA", "XYZ"}
	for i, a := range all {
		for j, b := range all {
			x, y := of(a), bent(of(b), func(e *api.Ensemble) { e.Name = fmt.Sprint("m", i*j%3); e.Base[1] = int64(j) })
			thereAndBack(t, x, y)
		}
	}
}

func thereAndBack(t *testing.T, a, b api.Ensemble) {
	t.Helper()
	p, why := Diff(a, b)
	if why != api.OK || Check(p) != api.OK {
		t.Fatalf("P28.1: of %v and %v: %v, %d", a, b, p, why)
	}
	isApplied(t, "there (P28.6)", a, p, b)
	q, why := Invert(p)
	if why != api.OK {
		t.Fatal("P28.2:", why)
	}
	isApplied(t, "back (P28.6)", b, q, a)
	if back, why := Invert(q); why != api.OK || !samePatches(back, p) {
		t.Fatalf("P28.6: Invert of Invert of %v: %v, %d", p, back, why)
	}
	kept, dropped, added, _ := Size(p)
	if kept+dropped != len(a.Trees) || kept+added != len(b.Trees) {
		t.Fatalf("P28.7: %d kept, %d dropped, %d added of %d and %d", kept, dropped, added, len(a.Trees), len(b.Trees))
	}
	self, why := Diff(a, a)
	if _, dropped, added, _ := Size(self); why != api.OK || dropped != 0 || added != 0 {
		t.Fatalf("P28.7: Diff of %v with itself: %v", a, self)
	}
}

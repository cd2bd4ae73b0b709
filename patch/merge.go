package patch

import (
	"slices"

	"thicket/api"
)

// mergedHead has each field as it was changed by either; false, if both changed one, and not to the same.
func mergedHead(o, a, b api.Head) (api.Head, bool) {
	name, isName := changed(o.Name, a.Name, b.Name, same)
	features, areFeatures := changed(o.Features, a.Features, b.Features, slices.Equal)
	outputs, areOutputs := changed(o.Outputs, a.Outputs, b.Outputs, same)
	base, isBase := changed(o.Base, a.Base, b.Base, slices.Equal)
	h := api.Head{Name: name, Features: features, Outputs: outputs, Base: base}
	return h, isName && areFeatures && areOutputs && isBase
}

// changed is what either made of a thing; false, if both made something else of it.
func changed[T any](old, a, b T, isSame func(T, T) bool) (T, bool) {
	if isSame(a, old) {
		return b, true
	}
	return a, isSame(b, old) || isSame(a, b)
}

func same[T comparable](a, b T) bool { return a == b }

// changes are what a script does to trees: which it drops, and, by how many have been gone over, which it adds there.
type changes struct {
	drops []bool
	adds  [][]api.Tree
}

func changesOf(old, anew []api.Tree) changes {
	c := changes{drops: make([]bool, len(old)), adds: make([][]api.Tree, len(old)+1)}
	for s := range script(old, anew) {
		switch s.kind {
		case api.EditDrop:
			c.drops[s.old] = true
		case api.EditAdd:
			c.adds[s.old] = append(c.adds[s.old], anew[s.anew])
		}
	}
	return c
}

// mergedTrees are trees with the changes of two; false, and behind how many of them, if both add some at one place, and not the same.
func mergedTrees(old, a, b []api.Tree) ([]api.Tree, int, bool) {
	one, other := changesOf(old, a), changesOf(old, b)
	var l []api.Tree
	for over := range len(old) + 1 {
		// Ahead of all changes nothing stands between two trees, so that nil is what either may have changed.
		added, ok := changed(nil, one.adds[over], other.adds[over], areOne)
		if !ok {
			return nil, over, false
		}
		l = append(l, added...)
		if over < len(old) && !one.drops[over] && !other.drops[over] {
			l = append(l, old[over])
		}
	}
	return l, 0, true
}

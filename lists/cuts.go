package lists

import (
	"cmp"
	"iter"
	"slices"

	"thicket/api"
	"thicket/masks"
	"thicket/order"
)

// gathered are lists by their features, the cuts of each in order.
type gathered map[int]*api.List

// take gathers the cuts of the tree of that number, if it asks for no feature but the first so many.
func (g gathered) take(t api.Tree, number, features int) api.Errno {
	marks, why := masks.Marks(t)
	if why != api.OK {
		return why
	}
	for _, m := range marks {
		n := t.Nodes[m.Node]
		if n.Feature >= features {
			return api.ErrVector
		}
		g.add(n, api.Cut{Threshold: n.Threshold, Cats: n.Cats, Tree: number, From: m.From, To: m.To})
	}
	return api.OK
}

// add puts an inner node's cut where it belongs, each time with categories of its own.
func (g gathered) add(n api.Node, c api.Cut) {
	l := g[n.Feature]
	if l == nil {
		l = &api.List{Feature: n.Feature}
		g[n.Feature] = l
	}
	if n.Kind == api.NodeNumber {
		l.Numbers = append(l.Numbers, copyOf(c))
	} else {
		l.Cats = append(l.Cats, copyOf(c))
	}
	if n.Missing == api.SideRight {
		l.Lost = append(l.Lost, copyOf(c))
	}
}

// lists are what was gathered, by rising features: the map has no order of its own.
func (g gathered) lists() []api.List {
	var all []api.List
	for _, l := range g {
		sortBy(l.Numbers, func(c api.Cut) uint64 { return order.Key(c.Threshold) })
		all = append(all, *l)
	}
	sortBy(all, func(l api.List) int { return l.Feature })
	return all
}

// sortBy sorts items by rising keys; those of one key stay as they stand.
func sortBy[T any, K cmp.Ordered](l []T, key func(T) K) {
	slices.SortStableFunc(l, func(a, b T) int { return cmp.Compare(key(a), key(b)) })
}

// copyOf is a cut in memory of its own.
func copyOf(c api.Cut) api.Cut {
	c.Cats = append([]int(nil), c.Cats...)
	return c
}

func copies(l []api.Cut) []api.Cut {
	var out []api.Cut
	for _, c := range l {
		out = append(out, copyOf(c))
	}
	return out
}

// isAmong tells whether a number is one of some categories.
func isAmong(cats []int, x float64) bool {
	return slices.ContainsFunc(cats, func(c int) bool { return float64(c) == x })
}

// nodesOf yields the nodes of a kind that ask for a feature, be the trees right or not.
func nodesOf(l []api.Tree, kind api.NodeKind, feature int) iter.Seq[*api.Node] {
	return func(yield func(*api.Node) bool) {
		for _, t := range l {
			for i := range t.Nodes {
				if n := &t.Nodes[i]; n.Kind == kind && n.Feature == feature && !yield(n) {
					return
				}
			}
		}
	}
}

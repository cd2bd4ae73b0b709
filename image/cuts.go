package image

import (
	"cmp"
	"slices"

	"thicket/api"
)

// marked is a cut as an image has it: with a mark that it is one of its list's Lost.
type marked struct {
	api.Cut
	lost bool
}

// spot is where a cut stands; no two cuts of a right form's block have the same.
type spot struct{ tree, from, to int }

func spotOf(c api.Cut) spot { return spot{c.Tree, c.From, c.To} }

// markCuts are cuts with their marks.
func markCuts(l, lost []api.Cut) []marked {
	spots := map[spot]struct{}{}
	for _, c := range lost {
		spots[spotOf(c)] = struct{}{}
	}
	var out []marked
	for _, c := range l {
		_, ok := spots[spotOf(c)]
		out = append(out, marked{Cut: c, lost: ok})
	}
	return out
}

// plainCuts are cuts without their marks.
func plainCuts(l []marked) []api.Cut {
	var out []api.Cut
	for _, m := range l {
		out = append(out, m.Cut)
	}
	return out
}

// lostCuts are the cuts that are marked, in the order of their nodes: tree by tree, a node ahead of those below it, left ones first. Below a Right leaves begin later, below a Left they end earlier.
func lostCuts(l []marked) []api.Cut {
	var out []api.Cut
	for _, m := range l {
		if m.lost {
			c := m.Cut
			c.Cats = append([]int(nil), c.Cats...)
			out = append(out, c)
		}
	}
	slices.SortFunc(out, func(a, b api.Cut) int {
		return cmp.Or(cmp.Compare(a.Tree, b.Tree), cmp.Compare(a.From, b.From), cmp.Compare(b.To, a.To))
	})
	return out
}

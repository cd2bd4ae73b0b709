package patch

import (
	"slices"

	"thicket/api"
	"thicket/trees"
)

func headOf(e api.Ensemble) api.Head {
	return api.Head{Name: e.Name, Features: e.Features, Outputs: e.Outputs, Base: e.Base}
}

func ensembleOf(h api.Head, l []api.Tree) api.Ensemble {
	return api.Ensemble{Name: h.Name, Features: h.Features, Outputs: h.Outputs, Base: h.Base, Trees: l}
}

func isHeadOf(h api.Head, e api.Ensemble) bool {
	return trees.Same(ensembleOf(h, nil), ensembleOf(headOf(e), nil))
}

func areOne(a, b []api.Tree) bool { return slices.EqualFunc(a, b, trees.Alike) }

// copyOf is a patch in memory of its own, in all its lists.
func copyOf(p api.Patch) api.Patch {
	c := api.Patch{Old: copyHead(p.Old), New: copyHead(p.New)}
	for _, e := range p.Edits {
		c.Edits = append(c.Edits, api.Edit{Kind: e.Kind, Many: e.Many, Trees: copyTrees(e.Trees)})
	}
	return c
}

func copyHead(h api.Head) api.Head { return headOf(trees.Copy(ensembleOf(h, nil))) }

func copyTrees(l []api.Tree) []api.Tree { return trees.Copy(api.Ensemble{Trees: l}).Trees }

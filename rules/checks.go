package rules

import (
	"math"

	"thicket/api"
	"thicket/limbs"
	"thicket/scan"
	"thicket/trees"
)

// rule is one of the rules: its number, and whether it holds of what it is asked of. Where it is asked of many things, its function looks at a variable that goes from one to the next, so that a list of rules is made once for all of them.
type rule struct {
	number api.Rule
	holds  func() bool
}

// first is the first of some rules that does not hold, with its place.
func first(l []rule, tree, node int) api.Broken {
	for _, r := range l {
		if !r.holds() {
			return api.Broken{Rule: r.number, Tree: tree, Node: node}
		}
	}
	return api.Broken{}
}

// none stands for the number of a tree or a node where a rule is of none.
const none = -1

// ofHead asks the rules that come ahead of those of the features.
func ofHead(e api.Ensemble) api.Broken {
	return first([]rule{
		{api.RuleName, func() bool { return scan.Name(e.Name) }},
		{api.RuleFeatures, func() bool { return within(len(e.Features), 1, api.MaxFeatures) }},
	}, none, none)
}

// ofFeatures asks those of the features, one by one.
func ofFeatures(e api.Ensemble) api.Broken {
	var name string
	ahead := make(map[string]struct{}, len(e.Features))
	l := []rule{
		{api.RuleFeature, func() bool { return scan.Name(name) }},
		{api.RuleTwice, func() bool { _, twice := ahead[name]; return !twice }},
	}
	for i := range e.Features {
		name = e.Features[i]
		if b := first(l, none, i); b.Rule != api.RuleNone {
			return b
		}
		ahead[name] = struct{}{}
	}
	return api.Broken{}
}

// ofCounts asks those between the features and the trees.
func ofCounts(e api.Ensemble) api.Broken {
	return first([]rule{
		{api.RuleOutputs, func() bool { return within(e.Outputs, 1, api.MaxOutputs) }},
		{api.RuleBase, func() bool { return len(e.Base) == e.Outputs }},
		{api.RuleTrees, func() bool { return len(e.Trees) <= api.MaxTrees }},
	}, none, none)
}

// ofTrees asks those of the trees, one by one.
func ofTrees(e api.Ensemble) api.Broken {
	for i, t := range e.Trees {
		if b := ofTree(e, t, i); b.Rule != api.RuleNone {
			return b
		}
	}
	return api.Broken{}
}

// ofTree asks those of a tree of an ensemble, node by node where they are of nodes.
func ofTree(e api.Ensemble, t api.Tree, number int) api.Broken {
	b := first([]rule{
		{api.RuleOutput, func() bool { return within(t.Output, 0, e.Outputs-1) }},
		{api.RuleNodes, func() bool { return within(len(t.Nodes), 1, 2*api.MaxLeaves-1) }},
	}, number, none)
	if b.Rule != api.RuleNone {
		return b
	}
	var n api.Node
	l := nodeRules(&n, len(e.Features), len(t.Nodes))
	for i := range t.Nodes {
		n = t.Nodes[i]
		if b := first(l, number, i); b.Rule != api.RuleNone {
			return b
		}
	}
	why, at := trees.Shape(t) // all nodes are right by now: what is left of its errors is that they are no tree
	return first([]rule{{api.RuleTree, func() bool { return why == api.OK }}}, number, at)
}

// nodeRules are those of a node, in a tree of so many nodes and an ensemble of so many features.
func nodeRules(n *api.Node, features, nodes int) []rule {
	return []rule{
		{api.RuleKind, func() bool { return n.Kind == api.NodeLeaf || isInner(*n) }},
		{api.RuleZero, func() bool { return isRestZero(*n) }},
		{api.RuleSplit, func() bool { return !isInner(*n) || within(n.Feature, 0, features-1) }},
		{api.RuleThreshold, func() bool { return n.Kind != api.NodeNumber || !math.IsNaN(n.Threshold) }},
		{api.RuleCats, func() bool { return n.Kind != api.NodeCats || areCats(n.Cats) }},
		{api.RuleMissing, func() bool { return !isInner(*n) || n.Missing == api.SideLeft || n.Missing == api.SideRight }},
		{api.RuleKids, func() bool { return !isInner(*n) || within(n.Left, 1, nodes-1) && within(n.Right, 1, nodes-1) }},
	}
}

// ofOutputs asks that of the outputs' rooms, one by one.
func ofOutputs(e api.Ensemble) api.Broken {
	var output int
	l := []rule{{api.RuleSum, func() bool {
		room, _ := Room(e, output)
		return limbs.Cmp(room, limbs.From(api.MaxSum)) < 0
	}}}
	for output = range e.Outputs {
		if b := first(l, none, output); b.Rule != api.RuleNone {
			return b
		}
	}
	return api.Broken{}
}

func within(n, low, high int) bool { return low <= n && n <= high }

func isInner(n api.Node) bool { return n.Kind == api.NodeNumber || n.Kind == api.NodeCats }

// isRestZero tells whether the fields are zero that a node's kind does not use; a threshold by its bits, so that -0 is not.
func isRestZero(n api.Node) bool {
	bare := math.Float64bits(n.Threshold) == 0
	switch n.Kind {
	case api.NodeNumber:
		return n.Value == 0 && len(n.Cats) == 0
	case api.NodeCats:
		return n.Value == 0 && bare
	}
	return bare && len(n.Cats) == 0 && n.Feature == 0 && n.Missing == api.SideNone && n.Left == 0 && n.Right == 0
}

// areCats tells whether there are some, they rise, and none is beyond the limit.
func areCats(l []int) bool {
	for i, c := range l {
		if !within(c, 0, api.MaxCats-1) || i > 0 && c <= l[i-1] {
			return false
		}
	}
	return len(l) > 0
}

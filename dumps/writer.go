package dumps

import (
	"math"
	"strconv"

	"thicket/api"
	"thicket/fixed"
	"thicket/floats"
	"thicket/order"
)

// checkOutputs gives up at the first tree that counts for another output than its place says.
func checkOutputs(e api.Ensemble) {
	for k, t := range e.Trees {
		if t.Output != k%e.Outputs {
			panic(fault{api.ErrUnsaid, said("tree", strconv.Itoa(k))})
		}
	}
}

// checkThresholds gives up at the first one above which there is no number that JSON can say.
func checkThresholds(e api.Ensemble) {
	for k, t := range e.Trees {
		for i, n := range t.Nodes {
			if n.Kind == api.NodeNumber && n.Threshold >= math.MaxFloat64 {
				panic(fault{api.ErrUnsaid, said("tree", strconv.Itoa(k), "node", strconv.Itoa(i))})
			}
		}
	}
}

// dump is that of a right ensemble that can be said.
func dump(e api.Ensemble) api.Json {
	var l []api.Json
	for _, t := range e.Trees {
		w := writer{features: e.Features, nodes: t.Nodes}
		l = append(l, w.node(0, 0))
	}
	return list(l...)
}

// writer puts a tree's nodes together.
type writer struct {
	features []string
	nodes    []api.Node
}

// node is a node of the tree that lies so deep, and all below it.
func (w *writer) node(i, depth int) api.Json {
	n := w.nodes[i]
	if n.Kind == api.NodeLeaf {
		return api.Json{Kind: api.JsonObject, Names: []string{"nodeid", "leaf"}, Items: []api.Json{whole(i), number(fixed.Print(n.Value))}}
	}
	missing := n.Right
	if n.Missing == api.SideLeft {
		missing = n.Left
	}
	return api.Json{
		Kind:  api.JsonObject,
		Names: []string{"nodeid", "depth", "split", "split_condition", "yes", "no", "missing", "children"},
		Items: []api.Json{whole(i), whole(depth), {Kind: api.JsonText, Text: w.features[n.Feature]}, condition(n), whole(n.Left), whole(n.Right), whole(missing), list(w.node(n.Left, depth+1), w.node(n.Right, depth+1))},
	}
}

// condition is what an inner node asks.
func condition(n api.Node) api.Json {
	if n.Kind == api.NodeNumber {
		above, _ := order.Next(n.Threshold) // there is one of every number but inf
		return number(floats.Shortest(above))
	}
	var l []api.Json
	for _, c := range n.Cats {
		l = append(l, whole(c))
	}
	return list(l...)
}

func list(items ...api.Json) api.Json { return api.Json{Kind: api.JsonList, Items: items} }

func number(text string) api.Json { return api.Json{Kind: api.JsonNumber, Text: text} }

func whole(n int) api.Json { return number(strconv.Itoa(n)) }

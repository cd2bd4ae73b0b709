package dumps

import (
	"math"
	"slices"
	"strconv"

	"thicket/api"
	"thicket/fixed"
	"thicket/floats"
	"thicket/order"
)

// reader goes through a tree; its functions give up at the first fault.
type reader struct {
	features map[string]int      // their numbers by their names
	ahead    map[uint64]struct{} // the nodeids that have been met in this tree
	way      []string            // the steps to the node that is looked at
	nodes    []api.Node          // those that have been met, in this order
}

// readAll are the trees of a dump.
func readAll(v api.Json, head api.Ensemble) []api.Tree {
	if v.Kind != api.JsonList {
		panic(fault{why: api.ErrDump})
	}
	outputs := max(1, head.Outputs)
	features := numbers(head.Features)
	var l []api.Tree
	for k, root := range v.Items {
		r := reader{features: features, ahead: map[uint64]struct{}{}, way: []string{item(k)}}
		r.node(root)
		l = append(l, api.Tree{Output: k % outputs, Nodes: r.nodes})
	}
	return l
}

// numbers are those of names, of one that stands twice the first.
func numbers(names []string) map[string]int {
	m := make(map[string]int, len(names))
	for i, name := range names {
		if _, twice := m[name]; !twice {
			m[name] = i
		}
	}
	return m
}

// fails gives up at a place in the node that is looked at.
func (r *reader) fails(why api.Errno, behind ...string) {
	panic(fault{why, path(append(r.way, behind...)...)})
}

// asks gives up, if something does not hold.
func (r *reader) asks(holds bool, behind ...string) {
	if !holds {
		r.fails(api.ErrDump, behind...)
	}
}

// node reads a node and all below it; it is the number that the node has in the list, and its nodeid.
func (r *reader) node(v api.Json) (int, uint64) {
	r.asks(v.Kind == api.JsonObject)
	id := r.whole(v, "nodeid")
	if _, twice := r.ahead[id]; twice {
		r.fails(api.ErrTwin, named("nodeid"))
	}
	r.ahead[id] = struct{}{}
	number := len(r.nodes)
	if leaf, ok := get(v, "leaf"); ok {
		r.nodes = append(r.nodes, r.leaf(leaf))
		return number, id
	}
	n := r.split(v)
	yes, no, missing := r.sides(v)
	n.Missing = missing
	r.nodes = append(r.nodes, n)
	left, right := r.children(v, yes, no)
	r.nodes[number].Left, r.nodes[number].Right = left, right
	return number, id
}

// get is an object's item of a name; unlike json.Get it copies nothing, as this would be done anew for all that lies below each node.
func get(v api.Json, name string) (api.Json, bool) {
	i := slices.Index(v.Names, name)
	if i < 0 {
		return api.Json{}, false
	}
	return v.Items[i], true
}

// whole is the whole number of a name.
func (r *reader) whole(v api.Json, name string) uint64 {
	w, _ := get(v, name)
	n, ok := digits(w)
	r.asks(ok, named(name))
	return n
}

// digits is a number that is written by digits alone; false of any other value.
func digits(v api.Json) (uint64, bool) {
	n, err := strconv.ParseUint(v.Text, 10, 64)
	return n, v.Kind == api.JsonNumber && err == nil && n <= api.MaxNode
}

// leaf is a leaf.
func (r *reader) leaf(v api.Json) api.Node {
	r.asks(v.Kind == api.JsonNumber, named("leaf"))
	value, why, _ := fixed.Rounded(v.Text)
	if why != api.OK {
		r.fails(why, named("leaf"))
	}
	return api.Node{Kind: api.NodeLeaf, Value: value}
}

// split is an inner node, as far as its test goes.
func (r *reader) split(v api.Json) api.Node {
	name, _ := get(v, "split")
	feature, known := r.features[name.Text]
	r.asks(name.Kind == api.JsonText && known, named("split"))
	c, _ := get(v, "split_condition")
	r.asks(c.Kind == api.JsonNumber || c.Kind == api.JsonList, named("split_condition"))
	if c.Kind == api.JsonList {
		return api.Node{Kind: api.NodeCats, Feature: feature, Cats: r.cats(c)}
	}
	return api.Node{Kind: api.NodeNumber, Feature: feature, Threshold: r.threshold(c)}
}

// threshold is the greatest number that is less than a condition.
func (r *reader) threshold(c api.Json) float64 {
	v, why, _ := floats.Read(c.Text)
	if why != api.OK {
		r.fails(why, named("split_condition"))
	}
	r.asks(!math.IsInf(v, -1), named("split_condition"))
	below, _ := order.Prev(v) // there is one of every number but -inf
	return below
}

func (r *reader) cats(c api.Json) []int {
	r.asks(len(c.Items) > 0, named("split_condition"))
	var l []int
	for i, v := range c.Items {
		n, ok := digits(v)
		r.asks(ok && n < api.MaxCats && (i == 0 || int(n) > l[i-1]), named("split_condition", item(i)))
		l = append(l, int(n))
	}
	return l
}

// sides are the nodeids of yes and no, and where NaN goes.
func (r *reader) sides(v api.Json) (uint64, uint64, api.Side) {
	yes := r.whole(v, "yes")
	no := r.whole(v, "no")
	r.asks(no != yes, named("no"))
	missing := r.whole(v, "missing")
	r.asks(missing == yes || missing == no, named("missing"))
	if missing == yes {
		return yes, no, api.SideLeft
	}
	return yes, no, api.SideRight
}

// children reads a node's, and is the numbers of those that have the nodeids yes and no.
func (r *reader) children(v api.Json, yes, no uint64) (int, int) {
	c, _ := get(v, "children")
	r.asks(c.Kind == api.JsonList && len(c.Items) == 2, named("children"))
	var numbers [2]int
	var ids [2]uint64
	for i, child := range c.Items {
		r.way = append(r.way, named("children", item(i)))
		numbers[i], ids[i] = r.node(child)
		r.way = r.way[:len(r.way)-1]
	}
	r.asks(ids[0] == yes || ids[0] == no, named("children", item(0), named("nodeid")))
	r.asks(ids[1] == yes+no-ids[0], named("children", item(1), named("nodeid")))
	if ids[0] == yes {
		return numbers[0], numbers[1]
	}
	return numbers[1], numbers[0]
}

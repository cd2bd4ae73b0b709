package explain

import (
	"math"
	"strconv"
	"strings"

	"thicket/api"
	"thicket/fixed"
	"thicket/floats"
	"thicket/trees"
)

// reason is why a vector comes to its leaf of a tree, and what that says.
func reason(t api.Tree, features []string, x []float64) string {
	var conditions []string
	end := 0
	for i, next := range stepsOf(t.Nodes, x) {
		n := &t.Nodes[i]
		conditions = append(conditions, condition(n, features[n.Feature], x[n.Feature]))
		end = next
	}
	return phrase(strings.Join(conditions, " and "), ":", "output", strconv.Itoa(t.Output), signed(t.Nodes[end].Value))
}

// condition is what holds of a number at an inner node.
func condition(n *api.Node, name string, v float64) string {
	isLeft := trees.Goes(*n, v) == api.SideLeft
	switch {
	case math.IsNaN(v):
		return phrase(name, "is missing")
	case n.Kind == api.NodeCats && isLeft:
		return phrase(name, "in", listed(n.Cats))
	case n.Kind == api.NodeCats:
		return phrase(name, "not in", listed(n.Cats))
	case isLeft:
		return phrase(name, "<=", floats.Shortest(n.Threshold))
	}
	return phrase(name, ">", floats.Shortest(n.Threshold))
}

// phrase puts a blank between words; an empty one is left out, as a leaf that is a whole tree has no conditions.
func phrase(words ...string) string {
	var said []string
	for _, w := range words {
		if w != "" {
			said = append(said, w)
		}
	}
	return strings.Join(said, " ")
}

func listed(cats []int) string {
	var l []string
	for _, c := range cats {
		l = append(l, strconv.Itoa(c))
	}
	return strings.Join(l, ",")
}

func signed(v int64) string {
	if v < 0 {
		return fixed.Print(v)
	}
	return "+" + fixed.Print(v)
}

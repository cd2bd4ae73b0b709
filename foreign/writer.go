package foreign

import (
	"slices"
	"strconv"
	"strings"

	"thicket/api"
	"thicket/fixed"
	"thicket/floats"
	"thicket/trees"
)

// canSay tells whether a right ensemble can be said in a model text.
func canSay(e api.Ensemble) bool {
	for _, v := range e.Base {
		if v != 0 {
			return false
		}
	}
	for k, t := range e.Trees {
		if t.Output != k%e.Outputs || slices.ContainsFunc(t.Nodes, isUnsaid) {
			return false
		}
	}
	return true
}

// isUnsaid tells whether a node sends NaN to the left, where only 0's way could say that, and 0 goes to the right.
func isUnsaid(n api.Node) bool {
	return n.Kind == api.NodeCats && n.Missing == api.SideLeft && trees.Goes(n, 0) == api.SideRight
}

// writer writes right ensembles that can be said.
type writer struct{ text strings.Builder }

func (w *writer) line(text string) {
	w.text.WriteString(text)
	w.text.WriteByte('\n')
}

// row writes a key's row, words with a blank between.
func (w *writer) row(key string, words ...string) { w.line(key + "=" + strings.Join(words, " ")) }

func (w *writer) header(e api.Ensemble) {
	outputs := strconv.Itoa(e.Outputs)
	w.line(firstRow)
	w.row("version", "v4")
	w.row("num_class", outputs)
	w.row("num_tree_per_iteration", outputs)
	w.row("label_index", "0")
	w.row("max_feature_idx", strconv.Itoa(len(e.Features)-1))
	w.row("feature_names", e.Features...)
	w.line("")
}

// tree writes a section.
func (w *writer) tree(number int, t api.Tree) {
	// A right tree has no error.
	inner, _ := trees.Inner(t)
	leaves, _ := trees.Leaves(t)
	l := lists{bounds: []string{"0"}}
	said := children(len(t.Nodes), inner, leaves)
	for _, i := range inner {
		l.add(t.Nodes[i], said)
	}
	var values []string
	for _, i := range leaves {
		values = append(values, fixed.Print(t.Nodes[i].Value))
	}
	w.row(sectionKey, strconv.Itoa(number))
	w.row("num_leaves", strconv.Itoa(len(leaves)))
	w.row("num_cat", strconv.Itoa(l.sets()))
	if len(inner) > 0 {
		w.row("split_feature", l.features...)
		w.row("threshold", l.thresholds...)
		w.row("decision_type", l.types...)
		w.row("left_child", l.left...)
		w.row("right_child", l.right...)
	}
	w.row("leaf_value", values...)
	if l.sets() > 0 {
		w.row("cat_boundaries", l.bounds...)
		w.row("cat_threshold", l.words...)
	}
	w.line("")
}

// children are the words that say each node where it is a child.
func children(nodes int, inner, leaves []int) []string {
	l := make([]string, nodes)
	for place, i := range inner {
		l[i] = strconv.Itoa(place)
	}
	for place, i := range leaves {
		l[i] = strconv.Itoa(-1 - place)
	}
	return l
}

// lists are the words of a section's keys.
type lists struct{ features, thresholds, types, left, right, bounds, words []string }

// sets is how many sets of categories there are.
func (l *lists) sets() int { return len(l.bounds) - 1 }

// add puts in an inner node, where children are said so.
func (l *lists) add(n api.Node, said []string) {
	l.features = append(l.features, strconv.Itoa(n.Feature))
	l.left = append(l.left, said[n.Left])
	l.right = append(l.right, said[n.Right])
	l.types = append(l.types, strconv.Itoa(typeOf(n)))
	if n.Kind == api.NodeNumber {
		l.thresholds = append(l.thresholds, floats.Shortest(n.Threshold))
		return
	}
	l.thresholds = append(l.thresholds, strconv.Itoa(l.sets()))
	l.words = append(l.words, setWords(n.Cats)...)
	l.bounds = append(l.bounds, strconv.Itoa(len(l.words)))
}

// typeOf is an inner node's decision type.
func typeOf(n api.Node) int {
	switch {
	case n.Kind == api.NodeCats && n.Missing == api.SideLeft:
		return typeCats + missingNone*typeMissing
	case n.Kind == api.NodeCats:
		return typeCats + missingNaN*typeMissing
	case n.Missing == api.SideLeft:
		return typeLeft + missingNaN*typeMissing
	}
	return missingNaN * typeMissing
}

// setWords are as few words as hold rising categories.
func setWords(cats []int) []string {
	set := make([]uint64, cats[len(cats)-1]/wordBits+1)
	for _, c := range cats {
		set[c/wordBits] |= 1 << (c % wordBits)
	}
	var l []string
	for _, word := range set {
		l = append(l, strconv.FormatUint(word, 10))
	}
	return l
}

package text

import (
	"strconv"
	"strings"

	"thicket/api"
	"thicket/fixed"
	"thicket/floats"
	"thicket/trees"
)

// writer writes right ensembles.
type writer struct{ text strings.Builder }

// line writes words with a blank between.
func (w *writer) line(words ...string) {
	w.text.WriteString(strings.Join(words, " "))
	w.text.WriteByte('\n')
}

// head writes the lines ahead of the trees.
func (w *writer) head(e api.Ensemble) {
	w.line("thicket", "1")
	w.line("name", e.Name)
	w.line("outputs", strconv.Itoa(e.Outputs))
	base := []string{"base"}
	for _, v := range e.Base {
		base = append(base, fixed.Print(v))
	}
	w.line(base...)
	w.line("features", strconv.Itoa(len(e.Features)))
	for _, name := range e.Features {
		w.line("feature", name)
	}
	w.line("trees", strconv.Itoa(len(e.Trees)))
}

// tree writes a tree's lines; a right one's Canon has no error.
func (w *writer) tree(features []string, t api.Tree) {
	c, _ := trees.Canon(t)
	w.line("tree", strconv.Itoa(c.Output), strconv.Itoa(len(c.Nodes)))
	for _, n := range c.Nodes {
		if n.Kind == api.NodeLeaf {
			w.line("leaf", fixed.Print(n.Value))
			continue
		}
		words := append([]string{"split", features[n.Feature]}, test(n)...)
		w.line(append(words, "to", strconv.Itoa(n.Left), strconv.Itoa(n.Right), "missing", side(n.Missing))...)
	}
}

// test is the words that say which numbers go to the left.
func test(n api.Node) []string {
	if n.Kind == api.NodeNumber {
		return []string{"<=", floats.Shortest(n.Threshold)}
	}
	words := []string{"in"}
	for _, c := range n.Cats {
		words = append(words, strconv.Itoa(c))
	}
	return words
}

func side(s api.Side) string {
	if s == api.SideLeft {
		return "left"
	}
	return "right"
}

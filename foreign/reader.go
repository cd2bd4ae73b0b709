package foreign

import (
	"math"
	"slices"

	"thicket/api"
	"thicket/floats"
	"thicket/trees"
)

// wordBits is how many categories a word of cat_threshold tells of.
const wordBits = 32

// What a decision type's bits say.
const (
	typeCats    = 1 // the node has categories
	typeLeft    = 2 // NaN goes to the left
	typeMissing = 4 // how often this is in it tells what counts as missing
	typeMost    = 15
)

// What counts as missing.
const (
	missingNone = iota // nothing: NaN goes where 0 does
	missingZero        // 0 too, which can't be said here
	missingNaN
)

// ensemble is what the parts of a text say, but for the name. Its trees' nodes are numbered as the text has them, inner ones first.
func ensemble(parts []part) api.Ensemble {
	e := header(parts[0])
	for k, p := range parts[1:] {
		s := section{part: p}
		s.read(k, len(e.Features))
		e.Trees = append(e.Trees, api.Tree{Output: k % e.Outputs, Nodes: s.nodes()})
	}
	return e
}

// header is an ensemble without name and trees.
func header(p part) api.Ensemble {
	class := p.needs("num_class")
	outputs := class.count()
	class.asks(outputs >= 1 && outputs <= api.MaxOutputs)
	if again := p.keys["num_tree_per_iteration"]; again.isThere() {
		again.asks(again.count() == outputs)
	}
	return api.Ensemble{Outputs: int(outputs), Base: make([]int64, outputs), Features: p.needs("feature_names").names()}
}

// section is one that is read: what its keys say, as far as they are looked at.
type section struct {
	part
	values      []int64 // of the leaves; what follows has an item for each inner node
	features    []uint64
	thresholds  []string
	types       []uint64
	left, right []int
	sets        [][]uint64 // of categories, each without the noughts at its end
}

// read looks at a section's keys, which has to have that number.
func (s *section) read(number, features int) {
	tree := s.needs(sectionKey)
	tree.asks(tree.count() == uint64(number))
	leaves := s.needs("num_leaves")
	n := leaves.count()
	leaves.asks(n >= 1 && n <= api.MaxLeaves)
	s.values = s.needs("leaf_value").values(n)
	if n == 1 {
		return
	}
	s.features = s.needs("split_feature").counts(n-1, uint64(features))
	s.thresholds = s.needs("threshold").some(n - 1)
	s.types = s.needs("decision_type").counts(n-1, typeMost+1)
	s.left = s.needs("left_child").children(n)
	s.right = s.needs("right_child").children(n)
	if cats := s.keys["num_cat"]; cats.isThere() {
		s.readSets(cats.count())
	}
}

// readSets looks at the keys of so many sets of categories.
func (s *section) readSets(many uint64) {
	if many == 0 {
		return
	}
	edges := s.needs("cat_boundaries")
	bounds := edges.counts(many+1, anyCount)
	edges.asks(bounds[0] == 0)
	for i := range many {
		edges.asks(bounds[i] < bounds[i+1])
	}
	words := s.needs("cat_threshold").counts(bounds[many], 1<<wordBits)
	for i := range many {
		s.sets = append(s.sets, trimmed(words[bounds[i]:bounds[i+1]]))
	}
}

// trimmed is without the noughts at its end. Each set is trimmed once, as many nodes may ask for one.
func trimmed(words []uint64) []uint64 {
	for len(words) > 0 && words[len(words)-1] == 0 {
		words = words[:len(words)-1]
	}
	return words
}

// nodes are the section's tree, its inner nodes first.
func (s *section) nodes() []api.Node {
	var l []api.Node
	for i := range s.features {
		l = append(l, s.inner(i))
	}
	for _, v := range s.values {
		l = append(l, api.Node{Kind: api.NodeLeaf, Value: v})
	}
	if len(s.left) > 0 {
		s.needs("left_child").asks(isTree(l))
	}
	return l
}

// inner is an inner node.
func (s *section) inner(i int) api.Node {
	n := api.Node{Kind: api.NodeNumber, Feature: int(s.features[i]), Left: s.left[i], Right: s.right[i]}
	row := s.needs("decision_type")
	missing := s.types[i] / typeMissing
	if missing == missingZero {
		panic(fault{api.ErrCannot, row.row})
	}
	row.asks(missing <= missingNaN)
	if s.types[i]&typeCats != 0 {
		n.Kind, n.Cats = api.NodeCats, s.cats(s.thresholds[i])
	} else {
		n.Threshold = s.number(s.thresholds[i])
	}
	switch {
	case missing == missingNone:
		n.Missing = trees.Goes(n, 0)
	case n.Kind == api.NodeNumber && s.types[i]&typeLeft != 0:
		n.Missing = api.SideLeft
	default:
		n.Missing = api.SideRight
	}
	return n
}

// number is what a threshold says that is one.
func (s *section) number(word string) float64 {
	v, why, _ := floats.Read(word)
	s.needs("threshold").asks(why == api.OK && !math.IsNaN(v))
	return v
}

// cats are the categories of the set whose number a threshold is.
func (s *section) cats(word string) []int {
	number, ok := digits(word)
	s.needs("threshold").asks(ok && number < uint64(len(s.sets)))
	set := s.sets[number]
	s.needs("cat_threshold").asks(len(set) > 0 && len(set) <= api.MaxCats/wordBits)
	var l []int
	for k, word := range set {
		for b := range wordBits {
			if word>>b&1 == 1 {
				l = append(l, k*wordBits+b)
			}
		}
	}
	return l
}

// isTree tells whether each node but the first is below just one, once, and is reached. Features are no matter of that: whether there are too many of them the rules tell, later.
func isTree(l []api.Node) bool {
	l = slices.Clone(l)
	for i := range l {
		l[i].Feature = 0
	}
	why, _ := trees.Shape(api.Tree{Nodes: l})
	return why == api.OK
}

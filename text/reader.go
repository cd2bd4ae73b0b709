package text

import (
	"thicket/api"
	"thicket/rules"
	"thicket/scan"
	"thicket/trees"
)

// reader puts an ensemble together, line by line. What a line adds to it that breaks a rule does no harm, as no further line is read then and nothing of the ensemble is answered.
type reader struct {
	e        api.Ensemble
	expects  func(*line)    // the method that reads the next line
	features map[string]int // their numbers by their names
	rooms    []uint64       // of the outputs, each below MaxSum
	many     int            // how many features, later trees there are to be
	nodes    int            // how many nodes the last tree is to have
	done     bool           // end has been read
}

func newReader() *reader {
	r := &reader{features: map[string]int{}}
	r.expects = r.version
	return r
}

// read is the least rule that a line breaks, which is not blank.
func (r *reader) read(text string) int {
	words, why, _ := scan.Words(text)
	if why != api.OK {
		return ruleWords
	}
	l := line{rest: words}
	r.expects(&l)
	l.asks(ruleForm, len(l.rest) == 0)
	return l.rule
}

func (r *reader) version(l *line) {
	l.first("thicket")
	l.count(1, 1)
	r.expects = r.name
}

func (r *reader) name(l *line) {
	l.first("name")
	r.e.Name = l.name()
	r.expects = r.outputs
}

func (r *reader) outputs(l *line) {
	l.first("outputs")
	r.e.Outputs = l.count(1, api.MaxOutputs)
	r.expects = r.base
}

func (r *reader) base(l *line) {
	l.first("base")
	for more := true; more; more = l.comes(api.WordNumber) {
		v := l.fixed()
		r.e.Base = append(r.e.Base, v)
		r.rooms = append(r.rooms, 0)
		r.fill(l, len(r.rooms)-1, amount(v))
	}
	l.asks(ruleBase, len(r.e.Base) == r.e.Outputs)
	r.expects = r.allFeatures
}

// amount is a number without its sign: as uint64, so that -2^63 has one.
func amount(v int64) uint64 {
	if v < 0 {
		return -uint64(v)
	}
	return uint64(v)
}

// fill adds to an output's room. It does not wrap: the room was below 2^62, and an amount is at most 2^63.
func (r *reader) fill(l *line, output int, by uint64) {
	r.rooms[output] += by
	l.asks(ruleSum, r.rooms[output] < api.MaxSum)
}

func (r *reader) allFeatures(l *line) {
	l.first("features")
	r.many = l.count(1, api.MaxFeatures)
	r.expects = r.feature
}

func (r *reader) feature(l *line) {
	l.first("feature")
	name := l.name()
	_, twice := r.features[name]
	l.asks(ruleKnown, !twice)
	r.features[name] = len(r.e.Features)
	r.e.Features = append(r.e.Features, name)
	if len(r.e.Features) == r.many {
		r.expects = r.allTrees
	}
}

func (r *reader) allTrees(l *line) {
	l.first("trees")
	r.many = l.count(0, api.MaxTrees)
	r.expectTree()
}

// expectTree is called where a tree begins, or the last one has ended.
func (r *reader) expectTree() {
	r.expects = r.tree
	if len(r.e.Trees) == r.many {
		r.expects = r.end
	}
}

func (r *reader) tree(l *line) {
	l.first("tree")
	output := l.count(0, r.e.Outputs-1)
	r.nodes = l.count(1, 2*api.MaxLeaves-1)
	r.e.Trees = append(r.e.Trees, api.Tree{Output: output})
	r.expects = r.node
}

func (r *reader) node(l *line) {
	var n api.Node
	switch {
	case l.takes(api.WordName, "leaf"):
		n = api.Node{Kind: api.NodeLeaf, Value: l.fixed()}
	case l.takes(api.WordName, "split"):
		n = r.split(l)
	default:
		l.breaks(ruleFirst)
	}
	t := &r.e.Trees[len(r.e.Trees)-1]
	t.Nodes = append(t.Nodes, n)
	if len(t.Nodes) == r.nodes {
		why, _ := trees.Shape(*t)
		l.asks(ruleTree, why == api.OK)
		r.fill(l, t.Output, rules.Largest(*t))
		r.expectTree()
	}
}

// split is an inner node, of the words behind the first one.
func (r *reader) split(l *line) api.Node {
	name := l.name()
	feature, known := r.features[name]
	l.asks(ruleKnown, known)
	n := api.Node{Feature: feature}
	switch {
	case l.takes(api.WordMark, "<="):
		n.Kind, n.Threshold = api.NodeNumber, l.number()
	case l.takes(api.WordName, "in"):
		n.Kind, n.Cats = api.NodeCats, cats(l)
	default:
		l.breaks(ruleForm)
	}
	l.small("to")
	n.Left = l.count(1, r.nodes-1)
	n.Right = l.count(1, r.nodes-1)
	l.small("missing")
	n.Missing = l.side()
	return n
}

// cats are a split's categories.
func cats(l *line) []int {
	var cats []int
	for more := true; more; more = l.comes(api.WordNumber) {
		c := l.count(0, api.MaxCats-1)
		l.asks(ruleRise, len(cats) == 0 || c > cats[len(cats)-1])
		cats = append(cats, c)
	}
	return cats
}

func (r *reader) end(l *line) {
	l.first("end")
	r.done = true
	r.expects = r.nothing
}

// nothing is what is expected behind end.
func (r *reader) nothing(l *line) { l.breaks(ruleFirst) }

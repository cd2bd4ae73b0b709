package foreign

import (
	"math"
	"math/big"
	"reflect"
	"regexp"
	"slices"
	"strconv"
	"strings"
	"testing"

	"thicket/api"
	"thicket/trees"
)

// A second opinion, from the chapter's words: by patterns, big numbers and the library's floats.

var (
	oneEnd    = regexp.MustCompile("\r\n|\r|\n")
	noBytes   = regexp.MustCompile(`\A[ \t]*\z`)
	keysRow   = regexp.MustCompile(`(?s)\A([^=]*)=(.*)\z`)
	oneName   = regexp.MustCompile(`\A[A-Za-z0-9_.-]{1,64}\z`)
	oneCount  = regexp.MustCompile(`\A(?:0|[1-9][0-9]{0,9})\z`)
	oneChild  = regexp.MustCompile(`\A(?:0|-?[1-9][0-9]{0,9})\z`)
	decimal   = regexp.MustCompile(`\A-?[0-9]+(?:\.[0-9]+)?(?:[eE][+-]?[0-9]+)?\z`)
	hexes     = regexp.MustCompile(`\A-?0x[0-9a-fA-F]+(?:\.[0-9a-fA-F]+)?p[+-]?[0-9]+\z`)
	headKeys  = strings.Fields("num_class num_tree_per_iteration feature_names")
	treeKeys  = strings.Fields("Tree num_leaves leaf_value split_feature threshold decision_type left_child right_child num_cat cat_boundaries cat_threshold")
	manyBlank = regexp.MustCompile(` +`)
)

// told is what a reader answers.
type told struct {
	e   api.Ensemble
	why api.Errno
	row int
}

func wrong(row int) told { return told{why: api.ErrForeign, row: row} }

// piece is the header or a section, with the rows of its keys.
type piece struct {
	first  int
	rows   map[string]int
	values map[string][]string
}

func newPiece(first int) piece { return piece{first, map[string]int{}, map[string][]string{}} }

// at is a key's row, or that of the piece.
func (p piece) at(key string) int {
	if row, ok := p.rows[key]; ok {
		return row
	}
	return p.first
}

func (p piece) has(key string) bool { return p.rows[key] > 0 }

func (p piece) put(keys []string, key, value string, row int) bool {
	if !slices.Contains(keys, key) {
		return true
	}
	if p.has(key) {
		return false
	}
	p.rows[key] = row
	p.values[key] = nil
	for _, word := range manyBlank.Split(value, -1) {
		if word != "" {
			p.values[key] = append(p.values[key], word)
		}
	}
	return true
}

// counted is a key's words as numbers; false, if they are not so many counts.
func (p piece) counted(key string, many int) ([]int, bool) {
	var l []int
	for _, word := range p.values[key] {
		if !oneCount.MatchString(word) {
			return nil, false
		}
		n, _ := strconv.Atoi(word)
		l = append(l, n)
	}
	return l, p.has(key) && len(l) == many
}

func (p piece) count(key string) (int, bool) {
	l, ok := p.counted(key, 1)
	if !ok {
		return -1, false
	}
	return l[0], true
}

// readByWords is what Read has to answer.
func readByWords(s, name string) told {
	rows := oneEnd.Split(s, -1)
	if rows[len(rows)-1] == "" {
		rows = rows[:len(rows)-1]
	}
	header, end := newPiece(0), 0
	var sections []piece
	begun := false
	for i, row := range rows {
		if noBytes.MatchString(row) {
			continue
		}
		if !begun {
			if row != "tree" {
				return wrong(i + 1)
			}
			begun = true
			continue
		}
		if row == "end of trees" {
			end = i + 1
			break
		}
		m := keysRow.FindStringSubmatch(row)
		if m == nil {
			return wrong(i + 1)
		}
		if m[1] == "Tree" {
			sections = append(sections, newPiece(i+1))
		}
		ok := false
		if len(sections) == 0 {
			ok = header.put(headKeys, m[1], m[2], i+1)
		} else {
			ok = sections[len(sections)-1].put(treeKeys, m[1], m[2], i+1)
		}
		if !ok {
			return wrong(i + 1)
		}
	}
	if end == 0 {
		return wrong(len(rows) + 1)
	}
	header.first = end
	if len(sections) > 0 {
		header.first = sections[0].first
	}
	return allByWords(header, sections, name)
}

func allByWords(header piece, sections []piece, name string) told {
	outputs, ok := header.count("num_class")
	if !ok || outputs < 1 || outputs > 64 {
		return wrong(header.at("num_class"))
	}
	if again, ok := header.count("num_tree_per_iteration"); header.has("num_tree_per_iteration") && (!ok || again != outputs) {
		return wrong(header.at("num_tree_per_iteration"))
	}
	names := header.values["feature_names"]
	distinct := make(map[string]int)
	for _, name := range names {
		distinct[name]++
		if !oneName.MatchString(name) {
			return wrong(header.at("feature_names"))
		}
	}
	if len(names) == 0 || len(distinct) != len(names) {
		return wrong(header.at("feature_names"))
	}
	e := api.Ensemble{Name: name, Features: names, Outputs: outputs, Base: make([]int64, outputs)}
	rooms := make([]*big.Int, outputs)
	for i := range rooms {
		rooms[i] = new(big.Int)
	}
	for k, s := range sections {
		nodes, bad := sectionByWords(s, k, len(names))
		if bad.why != api.OK {
			return bad
		}
		largest := new(big.Int)
		for _, n := range nodes {
			if v := big.NewInt(n.Value); v.CmpAbs(largest) > 0 {
				largest.Abs(v)
			}
		}
		rooms[k%outputs].Add(rooms[k%outputs], largest)
		e.Trees = append(e.Trees, api.Tree{Output: k % outputs, Nodes: nodes})
	}
	for _, room := range rooms {
		if room.Cmp(new(big.Int).Lsh(big.NewInt(1), 62)) >= 0 {
			return told{why: api.ErrModel}
		}
	}
	if !oneName.MatchString(name) || len(names) > 65536 || len(sections) > 65536 {
		return told{why: api.ErrModel}
	}
	return told{e: e}
}

// leafByWords is a leaf's value: its decimal in millionths, rounded, ties to even.
func leafByWords(word string) (int64, api.Errno) {
	if len(word) > 4096 {
		return 0, api.ErrLong
	}
	if !decimal.MatchString(word) {
		return 0, api.ErrFixed
	}
	digits, power, _ := strings.Cut(strings.ToLower(word), "e")
	r, _ := new(big.Rat).SetString(digits)
	if r.Sign() == 0 {
		return 0, api.OK
	}
	p, ok := new(big.Int).SetString("0"+power, 10)
	if power != "" {
		p, ok = new(big.Int).SetString(power, 10)
	}
	switch {
	case ok && p.Cmp(big.NewInt(9000)) > 0:
		return 0, api.ErrBig
	case ok && p.Cmp(big.NewInt(-9000)) < 0:
		return 0, api.OK
	}
	ten := new(big.Int).Exp(big.NewInt(10), new(big.Int).Abs(p), nil)
	if p.Sign() < 0 {
		r.Quo(r, new(big.Rat).SetInt(ten))
	} else {
		r.Mul(r, new(big.Rat).SetInt(ten))
	}
	n := nearest(r.Mul(r, big.NewRat(1000000, 1)))
	if !n.IsInt64() {
		return 0, api.ErrBig
	}
	return n.Int64(), api.OK
}

// nearest is the whole number nearest to a quotient, of two the even one.
func nearest(r *big.Rat) *big.Int {
	twice := new(big.Int).Lsh(r.Num(), 1)
	double := new(big.Int).Lsh(r.Denom(), 1)
	n, rest := new(big.Int).DivMod(twice.Add(twice, r.Denom()), double, new(big.Int))
	if rest.Sign() == 0 && n.Bit(0) == 1 {
		n.Sub(n, big.NewInt(1))
	}
	return n
}

func sectionByWords(p piece, number, features int) ([]api.Node, told) {
	if n, ok := p.count("Tree"); !ok || n != number {
		return nil, wrong(p.at("Tree"))
	}
	leaves, ok := p.count("num_leaves")
	if !ok || leaves < 1 || leaves > 4096 {
		return nil, wrong(p.at("num_leaves"))
	}
	if len(p.values["leaf_value"]) != leaves {
		return nil, wrong(p.at("leaf_value"))
	}
	var values []int64
	for _, word := range p.values["leaf_value"] {
		v, why := leafByWords(word)
		if why != api.OK {
			return nil, told{why: why, row: p.at("leaf_value")}
		}
		values = append(values, v)
	}
	if leaves == 1 {
		return []api.Node{leafOf(values[0])}, told{}
	}
	inner := leaves - 1
	split, ok := p.counted("split_feature", inner)
	if !ok || slices.Max(split) >= features {
		return nil, wrong(p.at("split_feature"))
	}
	if len(p.values["threshold"]) != inner {
		return nil, wrong(p.at("threshold"))
	}
	types, ok := p.counted("decision_type", inner)
	if !ok || slices.Max(types) > 15 {
		return nil, wrong(p.at("decision_type"))
	}
	children := make(map[string][]int)
	for _, key := range []string{"left_child", "right_child"} {
		for _, word := range p.values[key] {
			c, err := strconv.Atoi(word)
			if !oneChild.MatchString(word) || err != nil || c < -leaves || c > inner-1 {
				return nil, wrong(p.at(key))
			}
			children[key] = append(children[key], c)
		}
		if len(children[key]) != inner {
			return nil, wrong(p.at(key))
		}
	}
	sets, bad := setsByWords(p)
	if bad.why != api.OK {
		return nil, bad
	}
	var l []api.Node
	for i := range inner {
		n, bad := innerByWords(p, i, types[i], sets)
		if bad.why != api.OK {
			return nil, bad
		}
		n.Feature = split[i]
		l = append(l, n)
	}
	nodes := grownByWords(l, children["left_child"], children["right_child"], values)
	if nodes == nil {
		return nil, wrong(p.at("left_child"))
	}
	return nodes, told{}
}

// setsByWords are the sets of categories as lists of bits.
func setsByWords(p piece) ([][]int, told) {
	many, ok := p.count("num_cat")
	if !p.has("num_cat") || many == 0 && ok {
		return nil, told{}
	}
	if !ok {
		return nil, wrong(p.at("num_cat"))
	}
	bounds, ok := p.counted("cat_boundaries", many+1)
	if !ok || bounds[0] != 0 || !slices.IsSorted(bounds) || len(slices.Compact(slices.Clone(bounds))) != len(bounds) {
		return nil, wrong(p.at("cat_boundaries"))
	}
	words, ok := p.counted("cat_threshold", bounds[many])
	if !ok || slices.Max(words) > math.MaxUint32 {
		return nil, wrong(p.at("cat_threshold"))
	}
	var sets [][]int
	for i := range many {
		all := new(big.Int)
		for k := bounds[i+1] - 1; k >= bounds[i]; k-- {
			all.Or(all.Lsh(all, 32), big.NewInt(int64(words[k])))
		}
		var cats []int
		for b := range all.BitLen() {
			if all.Bit(b) == 1 {
				cats = append(cats, b)
			}
		}
		sets = append(sets, cats)
	}
	return sets, told{}
}

func innerByWords(p piece, i, d int, sets [][]int) (api.Node, told) {
	switch d / 4 {
	case 1:
		return api.Node{}, told{why: api.ErrCannot, row: p.at("decision_type")}
	case 3:
		return api.Node{}, wrong(p.at("decision_type"))
	}
	word := p.values["threshold"][i]
	toLeft := false
	n := api.Node{Kind: api.NodeNumber}
	if d%2 == 1 {
		c, err := strconv.Atoi(word)
		if !oneCount.MatchString(word) || err != nil || c >= len(sets) {
			return n, wrong(p.at("threshold"))
		}
		if len(sets[c]) == 0 || slices.Max(sets[c]) >= 1024 {
			return n, wrong(p.at("cat_threshold"))
		}
		n.Kind, n.Cats = api.NodeCats, sets[c]
		toLeft = d/4 == 0 && sets[c][0] == 0
	} else {
		if word != "inf" && word != "-inf" && !decimal.MatchString(word) && !hexes.MatchString(word) || len(word) > 4096 {
			return n, wrong(p.at("threshold"))
		}
		n.Threshold, _ = strconv.ParseFloat(word, 64)
		toLeft = d/4 == 2 && d/2%2 == 1 || d/4 == 0 && n.Threshold >= 0
	}
	n.Missing = right
	if toLeft {
		n.Missing = left
	}
	return n, told{}
}

// grownByWords puts the nodes together from inner node 0 on; none, if they are no tree.
func grownByWords(inner []api.Node, lefts, rights []int, values []int64) []api.Node {
	named := make(map[int]int)
	for _, c := range append(slices.Clone(lefts), rights...) {
		named[c]++
	}
	for _, many := range named {
		if many > 1 {
			return nil
		}
	}
	if named[0] > 0 {
		return nil
	}
	var l []api.Node
	var grow func(c int) int
	grow = func(c int) int {
		at := len(l)
		if c < 0 {
			l = append(l, leafOf(values[-c-1]))
			return at
		}
		l = append(l, inner[c])
		toLeft := grow(lefts[c])
		toRight := grow(rights[c])
		l[at].Left, l[at].Right = toLeft, toRight
		return at
	}
	grow(0)
	if len(l) != len(inner)+len(values) {
		return nil
	}
	return l
}

// judgedByWords asks that Read answers what the second opinion does, and is its error.
func judgedByWords(t *testing.T, what, s string) api.Errno {
	t.Helper()
	want := readByWords(s, "m")
	e, why, row := Read(s, "m")
	if why != want.why || row != want.row || !trees.Same(e, want.e) {
		t.Errorf("11.1: %s: %q: %v, %d at %d; not %v, %d at %d", what, s, e, why, row, want.e, want.why, want.row)
	}
	if why != api.OK && !reflect.DeepEqual(e, api.Ensemble{}) {
		t.Errorf("P2: %s: %q: %v beside an error", what, s, e)
	}
	return why
}

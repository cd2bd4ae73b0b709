package dumps

import (
	"bytes"
	other "encoding/json"
	"math"
	"math/big"
	"reflect"
	"regexp"
	"slices"
	"strconv"
	"strings"
	"testing"

	"thicket/api"
	"thicket/json"
	"thicket/rules"
	"thicket/trees"
)

// A second opinion, from the chapter's words: by the library's JSON, floats and big numbers.

var byDigits = regexp.MustCompile(`\A[0-9]+\z`)

// told is what a reader answers.
type told struct {
	e   api.Ensemble
	why api.Errno
	at  string
}

// wholeByWords is a value as a whole number, or -1.
func wholeByWords(v any) int {
	s, ok := v.(other.Number)
	if !ok || !byDigits.MatchString(s.String()) {
		return -1
	}
	n, _ := new(big.Int).SetString(s.String(), 10)
	if n.BitLen() > 31 {
		return -1
	}
	return int(n.Int64())
}

// parsed is a text that is right JSON, as the library has it.
func parsed(b []byte) any {
	d := other.NewDecoder(bytes.NewReader(b))
	d.UseNumber()
	var v any
	if d.Decode(&v) != nil {
		return nil
	}
	return v
}

// branch is a node that was read, with those below.
type branch struct {
	n       api.Node
	id      int
	yes, no *branch
}

// judge goes through a tree.
type judge struct {
	features []string
	ids      []int
	why      api.Errno
	at       string
}

func (j *judge) wrong(why api.Errno, at string) *branch {
	j.why, j.at = why, at
	return nil
}

func (j *judge) node(v any, at string) *branch {
	o, ok := v.(map[string]any)
	if !ok {
		return j.wrong(api.ErrDump, at)
	}
	id := wholeByWords(o["nodeid"])
	if id < 0 {
		return j.wrong(api.ErrDump, at+".nodeid")
	}
	if slices.Contains(j.ids, id) {
		return j.wrong(api.ErrTwin, at+".nodeid")
	}
	j.ids = append(j.ids, id)
	if leaf, there := o["leaf"]; there {
		value, why := leafByWords(leaf)
		if why != api.OK {
			return j.wrong(why, at+".leaf")
		}
		return &branch{n: leafOf(value), id: id}
	}
	b := &branch{id: id}
	name, isText := o["split"].(string)
	b.n.Feature = slices.Index(j.features, name)
	if !isText || b.n.Feature < 0 {
		return j.wrong(api.ErrDump, at+".split")
	}
	if why, behind := b.ask(o["split_condition"]); why != api.OK {
		return j.wrong(why, at+".split_condition"+behind)
	}
	var ways [3]int
	for i, name := range []string{"yes", "no", "missing"} {
		ways[i] = wholeByWords(o[name])
		if ways[i] < 0 || i == 1 && ways[1] == ways[0] || i == 2 && ways[2] != ways[0] && ways[2] != ways[1] {
			return j.wrong(api.ErrDump, at+"."+name)
		}
	}
	b.n.Missing = right
	if ways[2] == ways[0] {
		b.n.Missing = left
	}
	children, isList := o["children"].([]any)
	if !isList || len(children) != 2 {
		return j.wrong(api.ErrDump, at+".children")
	}
	var kids [2]*branch
	for i, child := range children {
		if kids[i] = j.node(child, at+".children["+strconv.Itoa(i)+"]"); kids[i] == nil {
			return nil
		}
	}
	switch kids[0].id {
	case ways[0]:
		b.yes, b.no = kids[0], kids[1]
	case ways[1]:
		b.yes, b.no = kids[1], kids[0]
	default:
		return j.wrong(api.ErrDump, at+".children[0].nodeid")
	}
	if b.yes.id != ways[0] || b.no.id != ways[1] {
		return j.wrong(api.ErrDump, at+".children[1].nodeid")
	}
	return b
}

// ask reads a condition.
func (b *branch) ask(v any) (api.Errno, string) {
	if l, isList := v.([]any); isList {
		b.n.Kind = api.NodeCats
		for i, item := range l {
			c := wholeByWords(item)
			if c < 0 || c > 1023 || i > 0 && c <= b.n.Cats[i-1] {
				return api.ErrDump, "[" + strconv.Itoa(i) + "]"
			}
			b.n.Cats = append(b.n.Cats, c)
		}
		if len(l) == 0 {
			return api.ErrDump, ""
		}
		return api.OK, ""
	}
	s, isNumber := v.(other.Number)
	if !isNumber {
		return api.ErrDump, ""
	}
	if len(s) > 4096 {
		return api.ErrLong, ""
	}
	b.n.Kind = api.NodeNumber
	c, _ := strconv.ParseFloat(s.String(), 64)
	if math.IsInf(c, -1) {
		return api.ErrDump, ""
	}
	if b.n.Threshold = math.Nextafter(c, -endless); b.n.Threshold == 0 {
		b.n.Threshold = 0
	}
	return api.OK, ""
}

// leafByWords is a leaf's value: its decimal in millionths, rounded, ties to even.
func leafByWords(v any) (int64, api.Errno) {
	word, ok := v.(other.Number)
	if !ok {
		return 0, api.ErrDump
	}
	if len(word) > 4096 {
		return 0, api.ErrLong
	}
	digits, power, _ := strings.Cut(strings.ToLower(word.String()), "e")
	r, _ := new(big.Rat).SetString(digits)
	p, isPower := new(big.Int).SetString(power, 10)
	if r.Sign() == 0 || isPower && p.Cmp(big.NewInt(-9000)) < 0 {
		return 0, api.OK
	}
	if isPower {
		if p.Cmp(big.NewInt(9000)) > 0 {
			return 0, api.ErrBig
		}
		ten := new(big.Rat).SetInt(new(big.Int).Exp(big.NewInt(10), new(big.Int).Abs(p), nil))
		if p.Sign() < 0 {
			ten.Inv(ten)
		}
		r.Mul(r, ten)
	}
	n := nearest(r.Mul(r, big.NewRat(1000000, 1)))
	if !n.IsInt64() {
		return 0, api.ErrBig
	}
	return n.Int64(), api.OK
}

// nearest is the whole number nearest to a quotient, of two the even one.
func nearest(r *big.Rat) *big.Int {
	twice := new(big.Int).Lsh(r.Num(), 1)
	double := new(big.Int).Lsh(r.Denom(), 1)
	n, rest := new(big.Int).DivMod(twice.Add(twice, r.Denom()), double, new(big.Int))
	if rest.Sign() == 0 && n.Bit(0) == 1 {
		n.Sub(n, big.NewInt(1))
	}
	return n
}

// nodes are those of a branch, numbered from number on.
func (b *branch) nodes(number int) []api.Node {
	if b.yes == nil {
		return []api.Node{b.n}
	}
	toLeft := b.yes.nodes(number + 1)
	toRight := b.no.nodes(number + 1 + len(toLeft))
	b.n.Left, b.n.Right = number+1, number+1+len(toLeft)
	return slices.Concat([]api.Node{b.n}, toLeft, toRight)
}

// readByWords is what Read has to answer.
func readByWords(b []byte, head api.Ensemble) told {
	if _, why, at := json.Parse(b); why != api.OK {
		return told{why: why, at: "at " + strconv.Itoa(at)}
	}
	l, isList := parsed(b).([]any)
	if !isList {
		return told{why: api.ErrDump}
	}
	e := head
	e.Trees = nil
	for k, v := range l {
		j := judge{features: head.Features}
		root := j.node(v, "["+strconv.Itoa(k)+"]")
		if root == nil {
			return told{why: j.why, at: j.at}
		}
		output := 0
		if head.Outputs > 1 {
			output = k % head.Outputs
		}
		e.Trees = append(e.Trees, api.Tree{Output: output, Nodes: root.nodes(0)})
	}
	if broken := rules.Check(e); broken.Rule != 0 {
		return told{why: api.ErrModel, at: rules.Say(broken)}
	}
	return told{e: e}
}

// judgedByWords asks that Read answers what the second opinion does, and is its error.
func judgedByWords(t *testing.T, what, s string, head api.Ensemble) api.Errno {
	t.Helper()
	want := readByWords([]byte(s), head)
	e, why, at := Read([]byte(s), head)
	if why != want.why || at != want.at || !trees.Same(e, want.e) {
		t.Errorf("P12.1: %s: %.2000s: %v, %d at %q; not %v, %d at %q", what, s, e, why, at, want.e, want.why, want.at)
	}
	if why != api.OK && !reflect.DeepEqual(e, api.Ensemble{}) {
		t.Errorf("P2: %s: %s: %v beside an error", what, s, e)
	}
	return why
}

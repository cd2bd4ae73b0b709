package dumps

import (
	"strconv"
	"strings"
	"testing"

	"thicket/api"
	"thicket/trees"
)

// chain is a tree with so many inner nodes on one way, to the left or to the right.
func chain(inner int, toLeft bool) api.Tree {
	var l []api.Node
	for i := range inner {
		n := numberOf(0, float64(i), left, 2*i+2, 2*i+1)
		if !toLeft {
			n.Left, n.Right = n.Right, n.Left
		}
		l = append(l, n, leafOf(int64(i)))
	}
	return treeOf(0, append(l, leafOf(-1))...)
}

// bushy is a tree with so many leaves that is as flat as can be.
func bushy(leaves int) api.Tree {
	l := make([]api.Node, 2*leaves-1)
	for i := range l {
		if l[i] = leafOf(int64(i)); 2*i+2 < len(l) {
			l[i] = numberOf(1, float64(i), right, 2*i+1, 2*i+2)
		}
	}
	return treeOf(0, l...)
}

// A node that lies so deep has two lists or objects around it for each node above, and two more.
func TestLimitOfDepth(t *testing.T) {
	const most = api.MaxNest/2 - 1
	for _, toLeft := range []bool{true, false} {
		e := headOf(chain(most, toLeft))
		b, why, at := Write(e)
		if why != api.OK || at != "" {
			t.Fatalf("P12.2: %d nodes deep: %d at %q", most, why, at)
		}
		taken(t, "P12.4: as deep as can be", string(b), e, backOf(e))
		unsaid(t, "one deeper", headOf(chain(most+1, toLeft)), api.ErrDeep, "")
		unsaid(t, "far deeper", headOf(treeOf(0, leafOf(1)), chain(api.MaxLeaves-1, toLeft)), api.ErrDeep, "")
		// The dump of one deeper is no JSON that is taken.
		s := dumpByWords(headOf(chain(most+1, toLeft)))
		judgedByWords(t, "one deeper", s, headOf())
		if _, why, _ := Read([]byte(s), headOf()); why != api.ErrDeep {
			t.Error("P12.1: one deeper:", why)
		}
	}
	// Faults as deep as can be.
	s := dumpByWords(headOf(chain(most, true)))
	place := "[0]" + strings.Repeat(".children[0]", most)
	refused(t, "a leaf as deep as can be", strings.Replace(s, `"leaf":-0.000001`, `"leaf":null`, 1), headOf(), api.ErrDump, place+".leaf")
	refused(t, "a twin as deep as can be", strings.Replace(s, `{"nodeid":`+strconv.Itoa(2*most)+`,"leaf"`, `{"nodeid":0,"leaf"`, 1), headOf(), api.ErrTwin, place+".nodeid")
	refused(t, "categories as deep as can be", strings.Replace(s, `"split_condition":`+strconv.Itoa(most-1)+".000", `"split_condition":[],"x":1.000`, 1), headOf(), api.ErrDump, strings.TrimSuffix(place, ".children[0]")+".split_condition")
}

func TestLimitOfLeaves(t *testing.T) {
	e := headOf(bushy(api.MaxLeaves))
	b, why, _ := Write(e)
	if why != api.OK {
		t.Fatal("P12.2: MaxLeaves leaves:", why)
	}
	taken(t, "P12.4: MaxLeaves leaves", string(b), e, backOf(e))
	refused(t, "one leaf more", dumpByWords(headOf(bushy(api.MaxLeaves+1))), headOf(), api.ErrModel, "rule 12 tree 0")
	refused(t, "one leaf more, later", dumpByWords(headOf(treeOf(0, leafOf(1)), bushy(api.MaxLeaves+1))), headOf(), api.ErrModel, "rule 12 tree 1")
}

func TestLimitOfTrees(t *testing.T) {
	text := func(many int) string {
		return "[" + strings.TrimSuffix(strings.Repeat(`{"nodeid":0,"leaf":1},`, many), ",") + "]"
	}
	e, why, at := Read([]byte(text(api.MaxTrees)), headOf())
	if why != api.OK || at != "" || len(e.Trees) != api.MaxTrees {
		t.Fatalf("P12.1: MaxTrees trees: %d at %q", why, at)
	}
	if b, why, _ := Write(e); why != api.OK || string(b) != text(api.MaxTrees) {
		t.Error("P12.2: MaxTrees trees:", why)
	}
	refused(t, "one tree more", text(api.MaxTrees+1), headOf(), api.ErrModel, "rule 7")
	refused(t, "one tree more, and a fault in it", strings.TrimSuffix(text(api.MaxTrees+1), "1}]")+`"1"}]`, headOf(), api.ErrDump, "[65536].leaf")
}

// Features are counted by the rules; so a split on one beyond the limit is no fault of its own.
func TestLimitOfFeatures(t *testing.T) {
	head := headOf()
	for i := 2; i < api.MaxFeatures; i++ {
		head.Features = append(head.Features, "f"+strconv.Itoa(i))
	}
	s := strings.Replace(one("0.5"+ways), `"b"`, `"f65535"`, 1)
	e, why, at := Read([]byte(s), head)
	if why != api.OK || at != "" || e.Trees[0].Nodes[0].Feature != api.MaxFeatures-1 {
		t.Fatalf("P12.1: MaxFeatures features: %d at %q", why, at)
	}
	b, why, _ := Write(e)
	if o, _, _ := Read(b, head); why != api.OK || !trees.Same(e, o) {
		t.Error("P12.4: MaxFeatures features:", why)
	}
	head.Features = append(head.Features, "more")
	for _, name := range []string{"a", "f65535", "more"} {
		s := strings.Replace(one("0.5"+ways), `"b"`, `"`+name+`"`, 1)
		refused(t, "one feature more", s, head, api.ErrModel, "rule 2")
		refused(t, "one feature more, and a fault", strings.Replace(s, `"leaf":-1`, `"leaf":[]`, 1), head, api.ErrDump, "[0].children[1].leaf")
	}
}

func TestLimitOfOutputs(t *testing.T) {
	head := headOf()
	head.Outputs, head.Base = api.MaxOutputs, make([]int64, api.MaxOutputs)
	s := "[" + strings.Repeat(`{"nodeid":0,"leaf":1},`, 64) + `{"nodeid":0,"leaf":2}]`
	e, why, _ := Read([]byte(s), head)
	if why != api.OK || e.Trees[63].Output != 63 || e.Trees[64].Output != 0 {
		t.Error("P12.1: MaxOutputs outputs:", why)
	}
	head.Outputs, head.Base = api.MaxOutputs+1, make([]int64, api.MaxOutputs+1)
	refused(t, "one output more", s, head, api.ErrModel, "rule 5")
}

// digitsTree is a leaf alone that is said by so many digits.
func digitsTree(many int) api.Tree {
	v := int64(api.Unit)
	for range many - 1 {
		v *= 10
	}
	return treeOf(0, leafOf(v))
}

// A dump is as long as JSON may be at most.
func TestLimitOfLength(t *testing.T) {
	e := headOf()
	g := bushy(8)
	long, short := len(writeByWords(e, g, 0, 0))+1, len(writeByWords(e, digitsTree(1), 0, 0))+1 // with a comma each

	rest := api.MaxJson - 1 // the first tree has no comma, but there are two brackets
	for ; rest > 10*long; rest -= long {
		e.Trees = append(e.Trees, g)
	}
	for ; rest > 3*short; rest -= short {
		e.Trees = append(e.Trees, digitsTree(1))
	}
	// Two share what is left.
	e.Trees = append(e.Trees, digitsTree(rest/2-short+1), digitsTree(rest-rest/2-short+1))
	b, why, at := Write(e)
	if len(b) != api.MaxJson || why != api.OK || at != "" {
		t.Fatal("P12.2: just long enough:", len(b), why, at)
	}
	if o, why, _ := Read(b, e); why != api.OK || !trees.Same(o, backOf(e)) {
		t.Error("P12.4: just long enough:", why)
	}
	e.Trees[len(e.Trees)-1].Nodes[0].Value *= 10
	unsaid(t, "one byte more", e, api.ErrLong, "")
}

// A node's lists are gone through once, however much lies below: no copy is made of it at each node.
func TestMuchDeepWithin(t *testing.T) {
	const most = api.MaxNest/2 - 2
	s := dumpByWords(headOf(chain(most, true)))
	more := `{"more":[` + strings.TrimSuffix(strings.Repeat("0,", 1<<20), ",") + "],"
	i := strings.Index(s, `{"nodeid":`+strconv.Itoa(2*most)+`,"leaf"`)
	s = s[:i] + more + s[i+1:]
	taken(t, "P12.6: much deep within", s, headOf(), backOf(headOf(chain(most, true))))
}

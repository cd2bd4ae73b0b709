package dumps

import (
	"math"
	"math/rand/v2"
	"reflect"
	"strconv"
	"strings"
	"testing"

	"thicket/api"
	"thicket/rules"
	"thicket/trees"
)

const (
	left  = api.SideLeft
	right = api.SideRight
)

var (
	endless  = math.Inf(1)
	minus0   = math.Copysign(0, -1)
	least    = math.SmallestNonzeroFloat64
	greatest = math.MaxFloat64
)

func source() *rand.Rand { return rand.New(rand.NewPCG(12, 12)) }

func leafOf(v int64) api.Node { return api.Node{Kind: api.NodeLeaf, Value: v} }

func numberOf(feature int, threshold float64, missing api.Side, l, r int) api.Node {
	return api.Node{Kind: api.NodeNumber, Feature: feature, Threshold: threshold, Missing: missing, Left: l, Right: r}
}

func catsOf(feature int, missing api.Side, l, r int, cats ...int) api.Node {
	return api.Node{Kind: api.NodeCats, Feature: feature, Cats: cats, Missing: missing, Left: l, Right: r}
}

func treeOf(output int, l ...api.Node) api.Tree { return api.Tree{Output: output, Nodes: l} }

// headOf is the chapter's head with these trees.
func headOf(l ...api.Tree) api.Ensemble {
	return api.Ensemble{Name: "m", Features: []string{"a", "b"}, Outputs: 1, Base: []int64{0}, Trees: l}
}

// one is the chapter's first dump, with another condition and what follows it.
func one(rest string) string {
	return `[{"nodeid":0,"split":"b","split_condition":` + rest + `,"children":[{"nodeid":1,"leaf":0.25},{"nodeid":2,"leaf":-1}]}]`
}

const ways = `,"yes":2,"no":1,"missing":1`

// refused asks that Read tells this error at this place, and nothing else.
func refused(t *testing.T, what, s string, head api.Ensemble, why api.Errno, place string) {
	t.Helper()
	e, got, at := Read([]byte(s), head)
	if got != why || at != place {
		t.Errorf("P12.1: %s: error %d at %q, not %d at %q", what, got, at, why, place)
	}
	if !reflect.DeepEqual(e, api.Ensemble{}) {
		t.Errorf("P2: %s: %v beside an error", what, e)
	}
}

// taken asks that Read says this ensemble, and that it is a right one, numbered as Canon has it.
func taken(t *testing.T, what, s string, head, want api.Ensemble) {
	t.Helper()
	e, why, at := Read([]byte(s), head)
	if why != api.OK || at != "" || !trees.Same(e, want) {
		t.Errorf("P12.1: %s: %v, %d, %q; not %v", what, e, why, at, want)
		return
	}
	if !rules.Valid(e) {
		t.Errorf("P12.6: %s: %s", what, rules.Say(rules.Check(e)))
	}
	if m, why := trees.Model(e); why != api.OK || !trees.Same(e, m) {
		t.Errorf("P12.1: %s: not numbered as trees.Canon has it: %v", what, e)
	}
}

func TestExamples(t *testing.T) {
	head := headOf()
	below := math.Float64frombits(0x3fdfffffffffffff)
	first := headOf(treeOf(0, numberOf(1, below, right, 1, 2), leafOf(-1000000), leafOf(250000)))
	taken(t, "the first one", one("0.5"+ways), head, first)
	taken(t, "no trees", "[]", head, head)
	for _, c := range []struct {
		s   string
		why api.Errno
		at  string
	}{
		{"{}", api.ErrDump, ""}, {"[1]", api.ErrDump, "[0]"}, {`[{"nodeid":0}]`, api.ErrDump, "[0].split"}, {`[{"nodeid":0,"leaf":"1"}]`, api.ErrDump, "[0].leaf"}, {`[{"nodeid":0,"leaf":1e20}]`, api.ErrBig, "[0].leaf"}, {"[", api.ErrJson, "at 1"},
		{one("[1,1]" + ways), api.ErrDump, "[0].split_condition[1]"}, {one(`0.5,"yes":2,"no":1,"missing":7`), api.ErrDump, "[0].missing"},
	} {
		refused(t, c.s, c.s, head, c.why, c.at)
	}
	b, why, at := Write(first)
	if want := `[{"nodeid":0,"depth":0,"split":"b","split_condition":0.5,"yes":1,"no":2,"missing":2,"children":[{"nodeid":1,"leaf":-1},{"nodeid":2,"leaf":0.25}]}]`; string(b) != want || why != api.OK || at != "" {
		t.Errorf("P12.2: %s, %d, %q", b, why, at)
	}
	first.Trees[0].Nodes[0].Threshold = endless
	unsaid(t, "a threshold", first, api.ErrUnsaid, "tree 0 node 0")
	two := headOf(treeOf(1, leafOf(1)))
	two.Outputs, two.Base = 2, []int64{0, 0}
	unsaid(t, "an output", two, api.ErrUnsaid, "tree 0")
}

// The document's T, with base 0.
func TestExampleOfTheWhole(t *testing.T) {
	e := headOf(treeOf(0, numberOf(0, 0.5, left, 1, 2), leafOf(1000000), leafOf(-2250000)))
	written(t, e, `[{"nodeid":0,"depth":0,"split":"a","split_condition":0.5000000000000001,"yes":1,"no":2,"missing":1,"children":[{"nodeid":1,"leaf":1},{"nodeid":2,"leaf":-2.25}]}]`)
	e.Base[0] = 500000
	written(t, e, `[{"nodeid":0,"depth":0,"split":"a","split_condition":0.5000000000000001,"yes":1,"no":2,"missing":1,"children":[{"nodeid":1,"leaf":1},{"nodeid":2,"leaf":-2.25}]}]`)
}

// Conditions are read as the number just below them.
func TestConditions(t *testing.T) {
	for s, want := range map[string]float64{
		"0.5": math.Float64frombits(0x3fdfffffffffffff), "0": -least, "-0": -least, "-0.0e5": -least, "1e-400": -least, "-1e-400": -least, "5e-324": 0, "4.9E-324": 0, "-5e-324": -2 * least, "1e400": greatest, "1.7976931348623157e308": math.Nextafter(greatest, 0), "-1.7976931348623157e308": -endless,
		"1": math.Float64frombits(0x3fefffffffffffff), "-1": math.Float64frombits(0xbff0000000000001), "9007199254740993": 9007199254740991, "0." + strings.Repeat("3", api.MaxNumber-2): math.Nextafter(1.0/3, 0),
	} {
		e, why, at := Read([]byte(one(s+ways)), headOf())
		if why != api.OK || at != "" {
			t.Errorf("P12.1: %.40s: %d at %q", s, why, at)
			continue
		}
		if n := e.Trees[0].Nodes[0]; n.Kind != api.NodeNumber || math.Float64bits(n.Threshold) != math.Float64bits(want) || n.Missing != right {
			t.Errorf("P12.1: %.40s: %v", s, n)
		}
	}
	place := "[0].split_condition"
	refused(t, "-inf", one("-1e400"+ways), headOf(), api.ErrDump, place)
	refused(t, "-inf", one("-1.7976931348623159e308"+ways), headOf(), api.ErrDump, place)
	refused(t, "a long one", one("0."+strings.Repeat("3", api.MaxNumber-1)+ways), headOf(), api.ErrLong, place)
	refused(t, "a long one that is -inf", one("-"+strings.Repeat("3", api.MaxNumber)+ways), headOf(), api.ErrLong, place)
	for _, s := range []string{"null", "true", "false", `"0.5"`, `"nan"`, "{}", `{"a":1}`, "[]", `"[1]"`} {
		refused(t, s, one(s+ways), headOf(), api.ErrDump, place)
	}
}

func TestCategories(t *testing.T) {
	for s, want := range map[string][]int{"[0]": {0}, "[1023]": {1023}, "[0,1023]": {0, 1023}, "[1, 3 ,64]": {1, 3, 64}} {
		e := headOf(treeOf(0, catsOf(1, right, 1, 2, want...), leafOf(-1000000), leafOf(250000)))
		taken(t, s, one(s+ways), headOf(), e)
		e.Trees[0].Nodes[0].Missing = left
		taken(t, s, one(s+`,"yes":2,"no":1,"missing":2`), headOf(), e)
	}
	for s, place := range map[string]string{
		"[1024]": "[0]", "[2147483648]": "[0]", "[99999999999999999999]": "[0]", "[-1]": "[0]", "[-0]": "[0]", "[1.0]": "[0]", "[1e0]": "[0]", "[1E1]": "[0]", "[null]": "[0]", `["1"]`: "[0]", "[[1]]": "[0]", "[{}]": "[0]", "[true]": "[0]",
		"[1,1]": "[1]", "[1,0]": "[1]", "[0,0]": "[1]", "[1,3,2]": "[2]", "[1,2,3,3,1]": "[3]", "[1,1024]": "[1]", "[0,1,2,3,4,5,6,7,8,9,10,1]": "[11]", "[5,4,1024]": "[1]", "[1024,1]": "[0]", "[3,null,2]": "[1]",
	} {
		refused(t, s, one(s+ways), headOf(), api.ErrDump, "[0].split_condition"+place)
	}
	var all []string
	for c := range api.MaxCats {
		all = append(all, strconv.Itoa(c))
	}
	e, why, _ := Read([]byte(one("["+strings.Join(all, ",")+"]"+ways)), headOf())
	if why != api.OK || len(e.Trees[0].Nodes[0].Cats) != api.MaxCats {
		t.Error("P12.1: MaxCats categories:", why)
	}
	refused(t, "one more", one("["+strings.Join(all, ",")+",1024]"+ways), headOf(), api.ErrDump, "[0].split_condition[1024]")
	refused(t, "the last one twice", one("["+strings.Join(all, ",")+",1023]"+ways), headOf(), api.ErrDump, "[0].split_condition[1024]")
}

// Leaves are rounded to millionths; of a leaf nothing else is looked at.
func TestLeaves(t *testing.T) {
	for s, want := range map[string]int64{"0": 0, "-0": 0, "0.0000005": 0, "0.0000015": 2, "-0.0000025": -2, "15e-1": 1500000, "1E2": 100000000, "0e99999999999": 0, "-1e-99999999999": 0, "4611686018427.387903": api.MaxSum - 1, "-4611686018427.387903": 1 - api.MaxSum, "0." + strings.Repeat("6", api.MaxNumber-2): 666667} {
		want := headOf(treeOf(0, leafOf(want)))
		taken(t, s, `[{"nodeid":0,"leaf":`+s+`}]`, headOf(), want)
		taken(t, s, `[{"split":7,"leaf":`+s+`,"children":[1],"yes":null,"nodeid":2147483647,"split_condition":{}}]`, headOf(), want)
	}
	for s, why := range map[string]api.Errno{"1e20": api.ErrBig, "-1e20": api.ErrBig, "9223372036854.775808": api.ErrBig, "1e99999999999": api.ErrBig, "0." + strings.Repeat("6", api.MaxNumber-1): api.ErrLong, "null": api.ErrDump, "true": api.ErrDump, "[]": api.ErrDump, "[1]": api.ErrDump, "{}": api.ErrDump, `"1"`: api.ErrDump, `""`: api.ErrDump} {
		refused(t, s, `[{"nodeid":0,"leaf":`+s+`}]`, headOf(), why, "[0].leaf")
		refused(t, s, `[{"nodeid":3,"split":"a","split_condition":1,"yes":1,"no":2,"missing":1,"leaf":`+s+`,"children":[{"nodeid":1,"leaf":0.25},{"nodeid":2,"leaf":-1}]}]`, headOf(), why, "[0].leaf")
	}
	// What fixed takes may be more than the rules do.
	refused(t, "a room that is full", `[{"nodeid":0,"leaf":4611686018427.387904}]`, headOf(), api.ErrModel, "rule 31 node 0")
	refused(t, "a room that is full by two", `[{"nodeid":0,"leaf":4611686018427.387903},{"nodeid":0,"leaf":-0.000001}]`, headOf(), api.ErrModel, "rule 31 node 0")
}

// A whole number is written by digits alone, and is at most MaxNode.
func TestWholeNumbers(t *testing.T) {
	for _, name := range []string{"nodeid", "yes", "no", "missing"} {
		for _, s := range []string{"-1", "-0", "1.0", "0.0", "1e0", "1E0", "0e0", "2147483648", "4294967296", "18446744073709551616", "99999999999999999999999", "null", "true", `"1"`, `""`, "[]", "[1]", "{}", `{"nodeid":1}`} {
			m := dumpOf()
			m.set("[0]", name, s)
			refused(t, name+" "+s, m.text(), headOf(), api.ErrDump, "[0]."+name)
		}
		m := dumpOf()
		m.set("[0]", name, "")
		refused(t, "no "+name, m.text(), headOf(), api.ErrDump, "[0]."+name)
		m.set("[0]", name, "01")
		refused(t, "a needless nought", m.text(), headOf(), api.ErrJson, "at "+strconv.Itoa(strings.Index(m.text(), `":01`)+3))
	}
	s := `[{"nodeid":2147483647,"split":"b","split_condition":1,"yes":2147483646,"no":0,"missing":2147483646,"children":[{"nodeid":0,"leaf":1},{"nodeid":2147483646,"leaf":2}]}]`
	taken(t, "MaxNode", s, headOf(), headOf(treeOf(0, numberOf(1, math.Nextafter(1, 0), left, 1, 2), leafOf(2000000), leafOf(1000000))))
}

// Names are told by their texts; what is not told says nothing.
func TestNames(t *testing.T) {
	want, why, _ := Read([]byte(one("0.5"+ways)), headOf())
	if why != api.OK {
		t.Fatal("P12.1:", why)
	}
	more := `{"depth":"x","gain":1e999999,"cover":null,"NodeId":1,"Leaf":2,"":[{"nodeid":7}],"leaf ":[],`
	s := strings.ReplaceAll(one("0.5"+ways), "{", more)
	taken(t, "P12.6: what more a node says", s, headOf(), want)
	taken(t, "P12.6: blanks", " \n"+strings.ReplaceAll(strings.ReplaceAll(one("0.5"+ways), ":", " :\t"), ",", "\r\n, ")+"\n", headOf(), want)
	taken(t, "escapes", strings.ReplaceAll(strings.ReplaceAll(one("0.5"+ways), "nodeid", `nod\u0065id`), `"b"`, `"\u0062"`), headOf(), want)
	for _, s := range []string{`"c"`, `""`, `"B"`, `"b "`, "1", "null", "true", `["b"]`, `{"b":1}`, "0"} {
		refused(t, "the feature "+s, strings.ReplaceAll(one("0.5"+ways), `"b"`, s), headOf(), api.ErrDump, "[0].split")
	}
	head := headOf()
	head.Features = []string{"0", "1", "true"}
	for _, s := range []string{"0", "1", "true"} {
		refused(t, "no text, but "+s, strings.ReplaceAll(one("0.5"+ways), `"b"`, s), head, api.ErrDump, "[0].split")
	}
	head.Features = nil
	refused(t, "no features", one("0.5"+ways), head, api.ErrDump, "[0].split")
}

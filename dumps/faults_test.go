package dumps

import (
	"slices"
	"strconv"
	"strings"
	"testing"

	"thicket/api"
)

// field is an item of a node as it is written.
type field struct{ name, text string }

// making is a dump in the making: the fields of each node by its place; a node that is written otherwise as a whole.
type making struct {
	roots  []string
	fields map[string][]field
	whole  map[string]string
}

// below says where a node's children are written.
const below = "below"

func (m making) add(place string, fields ...string) {
	for _, f := range fields {
		name, text, _ := strings.Cut(f, "=")
		m.fields[place] = append(m.fields[place], field{name, text})
	}
}

// dumpOf has a tree of three inner nodes and four leaves, a leaf alone, and a tree of one inner node. The first root's children stand in the other order, and so do those of its second child.
func dumpOf() making {
	m := making{[]string{"[0]", "[1]", "[2]"}, make(map[string][]field), make(map[string]string)}
	m.add("[0]", "nodeid=0", `split="b"`, "split_condition=0.5", "yes=1", "no=2", "missing=1", "children="+below)
	m.add("[0].children[0]", "nodeid=2", `split="a"`, "split_condition=[1,3]", "yes=5", "no=6", "missing=6", "children="+below)
	m.add("[0].children[0].children[0]", "nodeid=5", "leaf=0.5")
	m.add("[0].children[0].children[1]", "nodeid=6", "leaf=0.6")
	m.add("[0].children[1]", "nodeid=1", `split="a"`, "split_condition=-1e0", "yes=3", "no=4", "missing=4", "children="+below)
	m.add("[0].children[1].children[0]", "nodeid=4", "leaf=0.4")
	m.add("[0].children[1].children[1]", "nodeid=3", "leaf=0.3")
	m.add("[1]", "nodeid=0", "leaf=7")
	m.add("[2]", "nodeid=9", `split="b"`, "split_condition=[0]", "yes=3", "no=5", "missing=3", "children="+below)
	m.add("[2].children[0]", "nodeid=3", "leaf=1")
	m.add("[2].children[1]", "nodeid=5", "leaf=2")
	return m
}

// set writes a field otherwise, leaves it out, if the text is empty, or puts it in.
func (m making) set(place, name, text string) {
	l := slices.Clone(m.fields[place])
	i := slices.IndexFunc(l, func(f field) bool { return f.name == name })
	switch {
	case i < 0 && text != "":
		l = append(l, field{name, text})
	case i >= 0 && text == "":
		l = slices.Delete(l, i, i+1)
	case i >= 0:
		l[i].text = text
	}
	m.fields[place] = l
}

func (m making) node(place string) string {
	if text, ok := m.whole[place]; ok {
		return text
	}
	var l []string
	for _, f := range m.fields[place] {
		if f.text == below {
			f.text = "[" + m.node(place+".children[0]") + "," + m.node(place+".children[1]") + "]"
		}
		l = append(l, `"`+f.name+`":`+f.text)
	}
	return "{" + strings.Join(l, ",") + "}"
}

func (m making) text() string {
	var l []string
	for _, root := range m.roots {
		l = append(l, m.node(root))
	}
	return "[" + strings.Join(l, ",") + "]"
}

// dumpModel is what dumpOf says.
func dumpModel() api.Ensemble {
	return headOf(
		treeOf(0, numberOf(1, 0.49999999999999994, left, 1, 4), numberOf(0, -1.0000000000000002, right, 2, 3), leafOf(300000), leafOf(400000), catsOf(0, right, 5, 6, 1, 3), leafOf(500000), leafOf(600000)),
		treeOf(0, leafOf(7000000)),
		treeOf(0, catsOf(1, left, 1, 2, 0), leafOf(1000000), leafOf(2000000)),
	)
}

// steps are the places in the order in which they are looked at; an inner one's comes again with a ! behind, where its children's nodeids are held against it.
func steps() []string {
	return []string{"[0]", "[0].children[0]", "[0].children[0].children[0]", "[0].children[0].children[1]", "[0].children[0]!", "[0].children[1]", "[0].children[1].children[0]", "[0].children[1].children[1]", "[0].children[1]!", "[0]!", "[1]", "[2]", "[2].children[0]", "[2].children[1]", "[2]!"}
}

// names are a node's fields in the order in which they are looked at; behind the node itself.
func names() []string {
	return []string{"", "nodeid", "leaf", "split", "split_condition", "yes", "no", "missing", "children"}
}

// flaw is a field of dumpOf that is written otherwise (or a node, if it has no name), the error and the place that is told, and how early.
type flaw struct {
	place, name, text string
	why               api.Errno
	told              string
	rank              []int
}

func (f flaw) into(m making) {
	if f.name == "" {
		m.whole[f.place] = f.text
		return
	}
	m.set(f.place, f.name, f.text)
}

// notWhole are values that are no whole number.
func notWhole() []string {
	return []string{"", "-1", "1.0", "1e0", "2147483648", "null", `"1"`, "[1]", "{}"}
}

// innerFlaws are those of an inner node's own fields.
func innerFlaws(place string, yes, no string) []flaw {
	var l []flaw
	step := slices.Index(steps(), place)
	add := func(name, text, told, behind string) {
		l = append(l, flaw{place, name, text, api.ErrDump, place + "." + told + behind, []int{step, slices.Index(names(), told)}})
	}
	for _, name := range []string{"nodeid", "yes", "no", "missing"} {
		for _, text := range notWhole() {
			add(name, text, name, "")
		}
	}
	for _, text := range []string{"null", `"1"`, "[1]", "{}", "true"} {
		add("leaf", text, "leaf", "")
	}
	l = append(l, flaw{place, "leaf", "1e20", api.ErrBig, place + ".leaf", []int{step, slices.Index(names(), "leaf")}})
	for _, text := range []string{"", "1", "null", `"c"`, `""`, `["a"]`} {
		add("split", text, "split", "")
	}
	for _, text := range []string{"", "null", `"1"`, "{}", "[]", "-1e400", "false"} {
		add("split_condition", text, "split_condition", "")
	}
	l = append(l, flaw{place, "split_condition", strings.Repeat("1", api.MaxNumber+1), api.ErrLong, place + ".split_condition", []int{step, slices.Index(names(), "split_condition")}})
	for text, behind := range map[string]string{"[1024]": "[0]", "[null]": "[0]", "[1,1]": "[1]", "[3,1]": "[1]", "[1,3,3.0]": "[2]", "[1,2147483648]": "[1]"} {
		add("split_condition", text, "split_condition", behind)
	}
	add("yes", no, "no", "")
	add("no", yes, "no", "")
	add("missing", "77", "missing", "")
	for _, text := range []string{"", "null", "[]", "{}", "1", `[{"nodeid":50,"leaf":1}]`, `[{"nodeid":50,"leaf":1},{"nodeid":51,"leaf":1},{"nodeid":52,"leaf":1}]`, "[1]", `"x"`, "[1,2,3]"} {
		add("children", text, "children", "")
	}
	return l
}

// leafFlaws are those of a leaf's own fields.
func leafFlaws(place string) []flaw {
	var l []flaw
	step := slices.Index(steps(), place)
	add := func(name, text string, why api.Errno, told string) {
		l = append(l, flaw{place, name, text, why, place + "." + told, []int{step, slices.Index(names(), told)}})
	}
	for _, text := range notWhole() {
		add("nodeid", text, api.ErrDump, "nodeid")
	}
	for _, text := range []string{"null", `"1"`, "[1]", "{}", "true"} {
		add("leaf", text, api.ErrDump, "leaf")
	}
	add("leaf", "1e20", api.ErrBig, "leaf")
	add("leaf", strings.Repeat("1", api.MaxNumber+1), api.ErrLong, "leaf")
	add("leaf", "", api.ErrDump, "split")
	return l
}

func allFlaws() []flaw {
	var l []flaw
	l = append(l, innerFlaws("[0]", "1", "2")...)
	l = append(l, innerFlaws("[0].children[0]", "5", "6")...)
	l = append(l, innerFlaws("[0].children[1]", "3", "4")...)
	l = append(l, innerFlaws("[2]", "3", "5")...)
	for i, step := range steps() {
		if place, ok := strings.CutSuffix(step, "!"); ok {
			for k := range 2 {
				at := place + ".children" + item(k)
				l = append(l, flaw{at, "nodeid", strconv.Itoa(100 + 2*i + k), api.ErrDump, at + ".nodeid", []int{i, k}})
			}
			continue
		}
		for _, text := range []string{"1", "null", "[]", "[{}]", `"x"`, "true"} {
			l = append(l, flaw{step, "", text, api.ErrDump, step, []int{i, 0}})
		}
		if strings.Contains(step, "children") {
			root := map[bool]string{true: "0", false: "9"}[step[1] == '0']
			l = append(l, flaw{step, "nodeid", root, api.ErrTwin, step + ".nodeid", []int{i, 1}})
		}
		if slices.ContainsFunc(dumpOf().fields[step], func(f field) bool { return f.name == "leaf" }) {
			l = append(l, leafFlaws(step)...)
		}
	}
	return append(l, flaw{"[1]", "leaf", "4611686018427.387904", api.ErrModel, "rule 31 node 0", []int{len(steps())}})
}

// Each flaw alone, and every two of different fields together: that of the lesser rank is told.
func TestFlaws(t *testing.T) {
	taken(t, "all kinds of nodes", dumpOf().text(), headOf(), dumpModel())
	l := allFlaws()
	for _, a := range l {
		m := dumpOf()
		a.into(m)
		refused(t, a.place+" "+a.name+" "+a.text, m.text(), headOf(), a.why, a.told)
		judgedByWords(t, "a flaw", m.text(), headOf())
	}
	l = slices.CompactFunc(l, func(a, b flaw) bool { // of those that are alike but for the text one is enough
		return a.place == b.place && a.name == b.name && a.told == b.told && a.why == b.why
	})
	for i, a := range l {
		for _, b := range l[:i] {
			if a.place == b.place && (a.name == b.name || isWay(a.name) && isWay(b.name)) {
				continue // one takes the other's place
			}
			if _, why, at := Read([]byte(both(a, b)), headOf()); why != first(a, b).why || at != first(a, b).told {
				t.Errorf("P12.1: %s.%s %.40s and %s.%s %.40s: error %d at %q, not %d at %q", a.place, a.name, a.text, b.place, b.name, b.text, why, at, first(a, b).why, first(a, b).told)
			}
		}
	}
}

func isWay(name string) bool { return name == "yes" || name == "no" || name == "missing" }

func both(a, b flaw) string {
	m := dumpOf()
	a.into(m)
	b.into(m)
	return m.text()
}

func first(a, b flaw) flaw {
	if slices.Compare(b.rank, a.rank) < 0 {
		return b
	}
	return a
}

// The ways of one node: yes comes ahead of no, no ahead of missing.
func TestWays(t *testing.T) {
	whole := map[string]uint64{"0": 0, "1": 1, "2": 2, "3": 3, "2147483647": 2147483647}
	values := []string{"", "0", "1", "2", "3", "1.0", "2147483647", "2147483648", `"1"`}
	for _, yes := range values {
		for _, no := range values {
			for _, missing := range values {
				y, isYes := whole[yes]
				n, isNo := whole[no]
				m, isMissing := whole[missing]
				m0 := dumpOf()
				for i, name := range []string{"yes", "no", "missing"} {
					m0.set("[0]", name, []string{yes, no, missing}[i])
				}
				told := ""
				switch {
				case !isYes:
					told = "[0].yes"
				case !isNo || n == y:
					told = "[0].no"
				case !isMissing || m != y && m != n:
					told = "[0].missing"
				case y != 2 && n != 2:
					told = "[0].children[0].nodeid"
				case y+n-2 != 1:
					told = "[0].children[1].nodeid"
				}
				if told != "" {
					refused(t, yes+", "+no+", "+missing, m0.text(), headOf(), api.ErrDump, told)
				} else if _, why, _ := Read([]byte(m0.text()), headOf()); why != api.OK {
					t.Errorf("P12.1: yes %s, no %s, missing %s: %d", yes, no, missing, why)
				}
				judgedByWords(t, "ways", m0.text(), headOf())
			}
		}
	}
}

// Nodeids stand once in a tree, but may stand again in another one.
func TestTwins(t *testing.T) {
	m := dumpOf()
	for _, place := range []string{"[0].children[0]", "[0].children[0].children[0]", "[0].children[0].children[1]", "[0].children[1]", "[0].children[1].children[0]", "[0].children[1].children[1]"} {
		for _, f := range steps()[:slices.Index(steps(), place)] {
			if strings.HasSuffix(f, "!") {
				continue
			}
			m := dumpOf()
			m.set(place, "nodeid", m.fields[f][0].text)
			refused(t, place+" as "+f, m.text(), headOf(), api.ErrTwin, place+".nodeid")
		}
	}
	// The second tree's nodeids are those of the first one.
	m.roots = append(m.roots, "[0]")
	want := dumpModel()
	want.Trees = append(want.Trees, want.Trees[0])
	taken(t, "the same nodeids in two trees", m.text(), headOf(), want)
	// A twin is told ahead of what is wrong with its own fields, and ahead of the parent's nodeids.
	m = dumpOf()
	m.set("[0].children[1]", "nodeid", "2")
	m.set("[0].children[1]", "split", "7")
	m.set("[0].children[0]", "nodeid", "2")
	refused(t, "a twin with another fault", m.text(), headOf(), api.ErrTwin, "[0].children[1].nodeid")
}

// Children in either order, with the nodeids that are named, or others.
func TestChildren(t *testing.T) {
	child := func(id string) string { return `{"nodeid":` + id + `,"leaf":` + id + `}` }
	text := func(a, b string) string {
		return `[{"nodeid":9,"split":"a","split_condition":0,"yes":3,"no":5,"missing":5,"children":[` + child(a) + "," + child(b) + "]}]"
	}
	want := headOf(treeOf(0, numberOf(0, -least, right, 1, 2), leafOf(3000000), leafOf(5000000)))
	taken(t, "yes first", text("3", "5"), headOf(), want)
	taken(t, "no first", text("5", "3"), headOf(), want)
	for ids, told := range map[[2]string]string{{"3", "4"}: "[1]", {"5", "4"}: "[1]", {"4", "3"}: "[0]", {"4", "5"}: "[0]", {"4", "6"}: "[0]", {"0", "3"}: "[0]"} {
		refused(t, "children "+ids[0]+" and "+ids[1], text(ids[0], ids[1]), headOf(), api.ErrDump, "[0].children"+told+".nodeid")
	}
	for ids, told := range map[[2]string]string{{"3", "3"}: "[1]", {"9", "5"}: "[0]", {"5", "9"}: "[1]", {"4", "4"}: "[1]"} {
		refused(t, "children "+ids[0]+" and "+ids[1], text(ids[0], ids[1]), headOf(), api.ErrTwin, "[0].children"+told+".nodeid")
	}
}

// A head that breaks a rule is told behind all faults of the dump.
func TestWrongHeads(t *testing.T) {
	for say, spoil := range map[string]func(*api.Ensemble){
		"rule 1": func(e *api.Ensemble) { e.Name = "a b" }, "rule 3 node 2": func(e *api.Ensemble) { e.Features = []string{"a", "b", ""} }, "rule 4 node 2": func(e *api.Ensemble) { e.Features = []string{"a", "b", "a"} },
		"rule 5": func(e *api.Ensemble) { e.Outputs = 0 }, "rule 6": func(e *api.Ensemble) { e.Base = nil }, "rule 31 node 0": func(e *api.Ensemble) { e.Base = []int64{-api.MaxSum} },
	} {
		head := headOf()
		spoil(&head)
		refused(t, say, dumpOf().text(), head, api.ErrModel, say)
		refused(t, say, "[]", head, api.ErrModel, say)
		refused(t, say+" and a fault", strings.ReplaceAll(dumpOf().text(), `"leaf":2`, `"leaf":"2"`), head, api.ErrDump, "[2].children[1].leaf")
		refused(t, say+" and no list", "{}", head, api.ErrDump, "")
		refused(t, say+" and no JSON", "[}", head, api.ErrJson, "at 1")
	}
	for _, outputs := range []int{0, -1, -1 << 62, 65, 1 << 40} {
		head := headOf()
		head.Outputs = outputs
		refused(t, "outputs", dumpOf().text(), head, api.ErrModel, "rule 5")
		refused(t, "outputs", "[1]", head, api.ErrDump, "[0]")
	}
	refused(t, "nothing", "[]", api.Ensemble{}, api.ErrModel, "rule 1")
	refused(t, "nothing, and a split", dumpOf().text(), api.Ensemble{}, api.ErrDump, "[0].split")
	// A head's trees are not looked at.
	head := headOf(treeOf(7), treeOf(-1, api.Node{Kind: 9}))
	taken(t, "a head with trees", dumpOf().text(), head, dumpModel())
}

// Trees count for the outputs in turn.
func TestOutputs(t *testing.T) {
	for many := 1; many <= 5; many++ {
		head := headOf()
		head.Outputs, head.Base = many, []int64{5, 4, 3, 2, 1}[:many]
		want := dumpModel()
		want.Outputs, want.Base = head.Outputs, head.Base
		for k := range want.Trees {
			want.Trees[k].Output = k % many
		}
		taken(t, "outputs in turn", dumpOf().text(), head, want)
	}
}

// What is no list of nodes at all.
func TestOtherJson(t *testing.T) {
	for _, s := range []string{"{}", "1", "null", "true", `"[]"`, `{"nodeid":0,"leaf":1}`, `{"trees":[]}`} {
		refused(t, s, s, headOf(), api.ErrDump, "")
	}
	for s, place := range map[string]string{"[[]]": "[0]", "[null]": "[0]", `[{"nodeid":0,"leaf":1},[]]`: "[1]", `[{}]`: "[0].nodeid", `[{"nodeid":0,"leaf":1},{"leaf":1}]`: "[1].nodeid"} {
		refused(t, s, s, headOf(), api.ErrDump, place)
	}
	for s, told := range map[string]string{"": "at 0", "[": "at 1", "[1,]": "at 3", `[{"nodeid":01}]`: "at 12", "[1] 2": "at 4", "\xff": "at 0", "nul": "at 3", "[\"\\x\"]": "at 3", strings.Repeat("[1,", 100) + "?": "at 300"} {
		refused(t, s, s, headOf(), api.ErrJson, told)
	}
	refused(t, "names that stand twice", `[{"nodeid":0,"leaf":1,"nodeid":0}]`, headOf(), api.ErrTwin, "at 22")
	refused(t, "too deep", strings.Repeat("[", api.MaxNest+1), headOf(), api.ErrDeep, "at 256")
	refused(t, "too long", "[]"+strings.Repeat(" ", api.MaxJson-1), headOf(), api.ErrLong, "at 0")
	taken(t, "just long enough", "[]"+strings.Repeat(" ", api.MaxJson-2), headOf(), headOf())
	if e, why, at := Read(nil, headOf()); why != api.ErrJson || at != "at 0" || e.Outputs != 0 {
		t.Error("P12.1: nil:", why, at)
	}
}

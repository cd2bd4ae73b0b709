package text

import (
	"math/rand/v2"
	"slices"
	"strings"
	"testing"
	"unsafe"

	"thicket/api"
	"thicket/fixed"
	"thicket/floats"
	"thicket/rules"
	"thicket/trees"
)

func pick(r *rand.Rand, l ...string) string { return l[r.IntN(len(l))] }

// loose writes lines with other blanks, remarks, blank lines and ends; it tells each line's new number, and behind them that of the line behind the last one.
func loose(r *rand.Rand, lines []string) (string, []int) {
	var b strings.Builder
	var numbers []int
	number := 1
	ends := []string{"\n", "\r\n", "\r"}
	if r.IntN(2) == 0 {
		ends = ends[r.IntN(3):][:1]
	}
	end := func() {
		e := pick(r, ends...)
		if e == "\n" && strings.HasSuffix(b.String(), "\r") {
			e = "\r" // the two would be one end
		}
		b.WriteString(e)
		number++
	}
	for _, line := range lines {
		for r.IntN(3) == 0 {
			b.WriteString(pick(r, "", " ", "\t", "#", "  # end", "# \x00\xff \" ?"))
			end()
		}
		numbers = append(numbers, number)
		b.WriteString(pick(r, "", " ", "\t "))
		for i, word := range strings.Fields(line) {
			if i > 0 {
				b.WriteString(pick(r, " ", "  ", "\t", " \t "))
			}
			b.WriteString(word)
		}
		b.WriteString(pick(r, "", " ", "\t", " # and ? \" \xff", "#"))
		end()
	}
	return b.String(), append(numbers, number)
}

func TestRemarks(t *testing.T) {
	r := source()
	for range 1000 {
		e := someForest(r)
		lines := printByWords(e, floats.Shortest, fixed.Print)
		s, _ := loose(r, lines)
		taken(t, "9.7: with remarks", s, e)
		bare, _ := Print(e)
		if d, why, f := Dump(s); d != bare || why != api.OK || f != (api.Fault{}) {
			t.Errorf("9.7: the dump of %q: %q, %d, %v", s, d, why, f)
		}
		for range 1 + r.IntN(2) {
			lines = spoiled(r, lines)
		}
		want := faultByWords(joined(lines))
		s, numbers := loose(r, lines)
		_, why, f := Parse(s)
		switch {
		case want == (api.Fault{}):
			if why != api.OK || f != want {
				t.Errorf("9.7: %q: %d, %v", s, why, f)
			}
		case why != api.ErrLine || f != api.Fault{Line: numbers[want.Line-1], Rule: want.Rule}:
			t.Errorf("9.7: %q: %v, not rule %d of line %d", s, f, want.Rule, numbers[want.Line-1])
		}
	}
}

// spoiled has another word, one more or one fewer, or its lines in another order: this may break rules or not.
func spoiled(r *rand.Rand, lines []string) []string {
	l := slices.Clone(lines)
	i := r.IntN(len(l))
	words := strings.Fields(l[i])
	if len(words) == 0 {
		return l
	}
	at := r.IntN(len(words))
	any := pick(r, "0", "1", "2", "3", "01", "-1", "7", "64", "65", "1023", "1024", "9999999999", "x", "some", "f0", "in", "to", "missing", "left", "right", "<=", "nan", "inf", "-inf", "0.5", "1e-400", "+1", "0x1p3", "1.1234567", "4611686018427.387903", "-9223372036854.775808", `"x"`, "?", ",", "leaf", "split", "tree", "end", "base", "feature", "1+1", "-0")
	switch r.IntN(8) {
	case 0:
		words = slices.Insert(words, at, any)
	case 1:
		words = slices.Delete(words, at, at+1)
	case 2:
		j := r.IntN(len(l))
		l[i], l[j] = l[j], l[i]
		return l
	case 3:
		if len(l) > 1 {
			return slices.Delete(l, i, i+1)
		}
	case 4:
		return slices.Insert(l, i, l[r.IntN(len(l))])
	default:
		words[at] = any
	}
	if len(words) > 0 { // a line that is empty would be passed over, and no line of its own
		l[i] = strings.Join(words, " ")
	}
	return l
}

func TestFaultsOfAnyTexts(t *testing.T) {
	r := source()
	told := make(map[int]int)
	for range 15000 {
		lines := printByWords(someForest(r), floats.Shortest, fixed.Print)
		for range r.IntN(4) {
			lines = spoiled(r, lines)
		}
		s := joined(lines)
		judgedByWords(t, "P7", s)
		e, why, f := Parse(s)
		told[f.Rule]++
		if why != api.OK {
			continue
		}
		if !rules.Valid(e) {
			t.Fatalf("9.5: %q: %s", s, rules.Say(rules.Check(e)))
		}
		d, why := Print(e)
		m, _ := trees.Model(e)
		again, _, _ := Parse(d)
		if twice, _, _ := Dump(d); why != api.OK || twice != d || !trees.Same(again, m) {
			t.Fatalf("9.6: %q: %q, %d", s, d, why)
		}
	}
	for rule := range 14 {
		if told[rule] == 0 {
			t.Error("no text broke rule", rule)
		}
	}
}

// Whatever the bytes are, a call answers.
func TestAnyBytes(t *testing.T) {
	r := source()
	for range 10000 {
		b := []byte(joined(rightWide()))
		for range 1 + r.IntN(5) {
			b[r.IntN(len(b))] = byte(r.IntN(256))
		}
		if r.IntN(4) == 0 {
			b = b[r.IntN(len(b)):]
		}
		judgedByWords(t, "P1", string(b))
	}
	for _, s := range []string{"\x00", "\xff\xfe", "\ufeffthicket 1", strings.Repeat("\n", 1000), strings.Repeat("thicket 1\n", 3), "thicket\n1", "thicket 1 name m", strings.Repeat("#", 1<<20), "\r", " "} {
		judgedByWords(t, "P1", s)
	}
}

// room is where memory begins and ends, spare room included.
type room struct{ from, to uintptr }

func roomOf[T any](l []T) room {
	var one T
	from := uintptr(unsafe.Pointer(unsafe.SliceData(l)))
	return room{from, from + uintptr(cap(l))*unsafe.Sizeof(one)}
}

func roomOfText(s string) room {
	from := uintptr(unsafe.Pointer(unsafe.StringData(s)))
	return room{from, from + uintptr(len(s))}
}

func roomsOf(e api.Ensemble) []room {
	l := []room{roomOfText(e.Name), roomOf(e.Features), roomOf(e.Base), roomOf(e.Trees)}
	for _, s := range e.Features {
		l = append(l, roomOfText(s))
	}
	for _, t := range e.Trees {
		l = append(l, roomOf(t.Nodes))
		for _, n := range t.Nodes {
			l = append(l, roomOf(n.Cats))
		}
	}
	return l
}

// apart tells whether no two rooms have a byte in common.
func apart(l ...room) bool {
	l = slices.DeleteFunc(l, func(r room) bool { return r.from == r.to })
	slices.SortFunc(l, func(a, b room) int {
		if a.from < b.from {
			return -1
		}
		return 1
	})
	for i := 1; i < len(l); i++ {
		if l[i].from < l[i-1].to {
			return false
		}
	}
	return true
}

func TestMemory(t *testing.T) {
	r := source()
	for range 100 {
		e := someForest(r)
		e.Name = strings.Clone(e.Name)
		for i := range e.Features {
			e.Features[i] = strings.Clone(e.Features[i])
		}
		before := trees.Copy(e)
		s, _ := Print(e)
		if !trees.Same(e, before) || !apart(append(roomsOf(e), roomOfText(s))...) {
			t.Fatal("9.4: Print changes or shares what is handed in")
		}
		a, _, _ := Parse(s)
		b, _, _ := Parse(s)
		d, _, _ := Dump(s)
		if !apart(slices.Concat(roomsOf(a), roomsOf(b), []room{roomOfText(s), roomOfText(d)})...) {
			t.Fatal("9.4: answers share memory")
		}
		spoilAll(&a)
		if m, _ := trees.Model(e); !trees.Same(b, m) {
			t.Fatal("9.4: a change of one answer is seen in another one")
		}
		if c, _, _ := Parse(s); !trees.Same(b, c) {
			t.Fatal("9.4: an answer is kept")
		}
	}
}

// spoilAll writes into all memory of an ensemble, spare room included.
func spoilAll(e *api.Ensemble) {
	for _, g := range e.Trees {
		for _, n := range g.Nodes {
			fill(n.Cats, 7)
		}
		fill(g.Nodes, leafOf(7))
	}
	fill(e.Trees, treeOf(7))
	fill(e.Features, "spoiled")
	fill(e.Base, 7)
}

func fill[T any](l []T, v T) {
	l = l[:cap(l)]
	for i := range l {
		l[i] = v
	}
}

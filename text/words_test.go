package text

import (
	"math"
	"math/big"
	"regexp"
	"slices"
	"strconv"
	"strings"
	"testing"

	"thicket/api"
	"thicket/scan"
)

// A second opinion, from the chapter's words: all rules that a line breaks are gathered, by patterns and big numbers, and the least of all lines' is told.

var (
	oneEnd   = regexp.MustCompile("\r\n|\r|\n")
	isBlank  = regexp.MustCompile(`\A[ \t]*(?:#|\z)`)
	oneName  = regexp.MustCompile(`\A[A-Za-z0-9_.-]{1,64}\z`)
	oneCount = regexp.MustCompile(`\A(?:0|[1-9][0-9]{0,8})\z`)
	oneFixed = regexp.MustCompile(`\A-?[0-9]+(?:\.[0-9]{1,6})?\z`)
	decimal  = regexp.MustCompile(`\A-?[0-9]+(?:\.[0-9]+)?(?:[eE][+-]?[0-9]+)?\z`)
	hexes    = regexp.MustCompile(`\A-?0x[0-9a-fA-F]+(?:\.[0-9a-fA-F]+)?p[+-]?[0-9]+\z`)
	forms    = map[string]*regexp.Regexp{ // of words as shown writes them
		"thicket":  regexp.MustCompile(`\A(?:a:thicket )n:(\S+) \z`),
		"name":     regexp.MustCompile(`\Aa:name [an]:(\S+) \z`),
		"outputs":  regexp.MustCompile(`\Aa:outputs n:(\S+) \z`),
		"base":     regexp.MustCompile(`\Aa:base ((?:n:\S+ )+)\z`),
		"features": regexp.MustCompile(`\Aa:features n:(\S+) \z`),
		"feature":  regexp.MustCompile(`\Aa:feature [an]:(\S+) \z`),
		"trees":    regexp.MustCompile(`\Aa:trees n:(\S+) \z`),
		"tree":     regexp.MustCompile(`\Aa:tree n:(\S+) n:(\S+) \z`),
		"leaf":     regexp.MustCompile(`\Aa:leaf n:(\S+) \z`),
		"split":    regexp.MustCompile(`\Aa:split [an]:(\S+) (?:m:<= [an]:(\S+)|a:in ((?:n:\S+ )*n:\S+)) a:to n:(\S+) n:(\S+) a:missing a:(left|right) \z`),
		"end":      regexp.MustCompile(`\Aa:end \z`),
	}
)

// shown writes words so that patterns can be held against them; a quoted text says nothing there.
func shown(words []api.Word) string {
	var b strings.Builder
	for _, w := range words {
		switch w.Kind {
		case api.WordName:
			b.WriteString("a:" + w.Text + " ")
		case api.WordNumber:
			b.WriteString("n:" + w.Text + " ")
		case api.WordMark:
			b.WriteString("m:" + w.Text + " ")
		default:
			b.WriteString("t: ")
		}
	}
	return b.String()
}

// judge has what has been read.
type judge struct {
	outputs, features, trees int
	names                    []string
	base                     []*big.Int
	sums                     []*big.Int // of the outputs
	done                     []int      // nodes of each tree that have been read
	counts                   []int      // nodes of each tree that there are to be
	output                   int
	below                    [][2]int // of the last tree, 0 0 of a leaf
	largest                  *big.Int
	broken                   []int
}

func (j *judge) ask(holds bool, rule int) {
	if !holds {
		j.broken = append(j.broken, rule)
	}
}

// expected is what the next line may begin with.
func (j *judge) expected(lines int) []string {
	switch {
	case lines < 5:
		return []string{"thicket", "name", "outputs", "base", "features"}[lines : lines+1]
	case len(j.names) < j.features:
		return []string{"feature"}
	case lines == 5+j.features:
		return []string{"trees"}
	case len(j.done) > 0 && j.done[len(j.done)-1] < j.counts[len(j.done)-1]:
		return []string{"leaf", "split"}
	case len(j.done) < j.trees:
		return []string{"tree"}
	case lines == j.allLines()-1:
		return []string{"end"}
	}
	return nil
}

func (j *judge) allLines() int {
	n := 7 + j.features + j.trees
	for _, c := range j.counts {
		n += c
	}
	return n
}

func number(s string) int {
	n, err := strconv.Atoi(s)
	if err != nil {
		return math.MaxInt
	}
	return n
}

func (j *judge) count(s string, low, high int) int {
	n := number(s)
	j.ask(oneCount.MatchString(s), 4)
	j.ask(n >= low && n <= high, 8)
	return n
}

func (j *judge) fixed(s string) *big.Int {
	if !oneFixed.MatchString(s) || len(s) > 4096 {
		j.ask(false, 5)
		return new(big.Int)
	}
	r, _ := new(big.Rat).SetString(s)
	n := r.Mul(r, big.NewRat(1000000, 1)).Num()
	j.ask(n.IsInt64(), 5)
	return n
}

func (j *judge) line(form string, m []string) {
	switch form {
	case "thicket":
		j.count(m[1], 1, 1)
	case "name":
		j.ask(oneName.MatchString(m[1]), 7)
	case "outputs":
		j.outputs = j.count(m[1], 1, 64)
	case "base":
		for _, s := range strings.Fields(m[1]) {
			v := j.fixed(s[2:])
			j.base = append(j.base, v)
			j.sums = append(j.sums, new(big.Int).Abs(v))
		}
		j.ask(len(j.base) == j.outputs, 9)
		j.askSums()
	case "features":
		j.features = j.count(m[1], 1, 65536)
	case "feature":
		j.ask(oneName.MatchString(m[1]), 7)
		j.ask(!slices.Contains(j.names, m[1]), 10)
		j.names = append(j.names, m[1])
	case "trees":
		j.trees = j.count(m[1], 0, 65536)
	case "tree":
		j.output = j.count(m[1], 0, j.outputs-1)
		j.counts = append(j.counts, j.count(m[2], 1, 8191))
		j.done = append(j.done, 0)
		j.below, j.largest = nil, new(big.Int)
	case "leaf":
		if v := j.fixed(m[1]); v.CmpAbs(j.largest) > 0 {
			j.largest = new(big.Int).Abs(v)
		}
		j.node([2]int{})
	case "split":
		j.split(m)
	}
}

func (j *judge) split(m []string) {
	nodes := j.counts[len(j.counts)-1]
	j.ask(oneName.MatchString(m[1]), 7)
	j.ask(slices.Contains(j.names, m[1]), 10)
	if s := m[2]; s != "" {
		j.ask((decimal.MatchString(s) || hexes.MatchString(s) || s == "inf" || s == "-inf") && len(s) <= 4096, 6)
	}
	last := -1
	for _, s := range strings.Fields(m[3]) {
		c := j.count(s[2:], 0, 1023)
		j.ask(c > last, 11)
		last = c
	}
	j.node([2]int{j.count(m[4], 1, nodes-1), j.count(m[5], 1, nodes-1)})
}

func (j *judge) node(below [2]int) {
	last := len(j.done) - 1
	j.below = append(j.below, below)
	j.done[last]++
	if j.done[last] == j.counts[last] && len(j.broken) == 0 {
		j.ask(isTree(j.below), 12)
		j.sums[j.output].Add(j.sums[j.output], j.largest)
		j.askSums()
	}
}

func (j *judge) askSums() {
	for _, sum := range j.sums {
		j.ask(sum.Cmp(new(big.Int).Lsh(big.NewInt(1), 62)) < 0, 13)
	}
}

// isTree tells whether a walk from node 0 comes to each node, and to none twice.
func isTree(below [][2]int) bool {
	met := make(map[int]int)
	wait := []int{0}
	for len(wait) > 0 && len(met) <= len(below) {
		i := wait[0]
		wait = wait[1:]
		if met[i]++; met[i] > 1 {
			return false
		}
		if below[i] != [2]int{} {
			wait = append(wait, below[i][:]...)
		}
	}
	return len(met) == len(below)
}

// faultByWords is the fault of a text, {0, 0} if it has none.
func faultByWords(s string) api.Fault {
	rows := oneEnd.Split(s, -1)
	if rows[len(rows)-1] == "" {
		rows = rows[:len(rows)-1]
	}
	var j judge
	lines := 0
	for i, row := range rows {
		if isBlank.MatchString(row) {
			continue
		}
		if rule := j.look(row, lines); rule != 0 {
			return api.Fault{Line: i + 1, Rule: rule}
		}
		lines++
	}
	if lines < 7 || len(j.expected(lines)) > 0 {
		return api.Fault{Line: len(rows) + 1, Rule: 2}
	}
	return api.Fault{}
}

// look is the least rule that a line breaks.
func (j *judge) look(row string, lines int) int {
	words, why, _ := scan.Words(row)
	if why != api.OK {
		return 1
	}
	if words[0].Kind != api.WordName || !slices.Contains(j.expected(lines), words[0].Text) {
		return 2
	}
	m := forms[words[0].Text].FindStringSubmatch(shown(words))
	if m == nil {
		return 3
	}
	j.line(words[0].Text, m)
	if len(j.broken) == 0 {
		return 0
	}
	return slices.Min(j.broken)
}

// judgedByWords asks that Parse tells of a text what the second opinion does.
func judgedByWords(t *testing.T, what, s string) {
	t.Helper()
	want := faultByWords(s)
	if want == (api.Fault{}) {
		if _, why, f := Parse(s); why != api.OK || f != want {
			t.Errorf("9.1: %s: %q: %d, %v, though it has no fault", what, s, why, f)
		}
		return
	}
	refused(t, what, s, want.Line, want.Rule)
}

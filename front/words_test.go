package front

import (
	"fmt"
	"math"
	"math/rand/v2"
	"regexp"
	"slices"
	"strconv"
	"strings"
	"testing"

	"thicket/api"
	"thicket/batch"
	"thicket/blocks"
	"thicket/cascade"
	"thicket/cells"
	"thicket/code"
	"thicket/dumps"
	"thicket/explain"
	"thicket/fixed"
	"thicket/floats"
	"thicket/image"
	"thicket/learn"
	"thicket/limbs"
	"thicket/patch"
	"thicket/rank"
	"thicket/rules"
	"thicket/slim"
	"thicket/text"
	"thicket/trees"
)

// A second opinion, from the chapter's words: arguments by patterns, all scores by descent.

var nan, endless, minus0 = math.NaN(), math.Inf(1), math.Copysign(0, -1)

func source() *rand.Rand { return rand.New(rand.NewPCG(30, 30)) }

func pick[T any](r *rand.Rand, l ...T) T { return l[r.IntN(len(l))] }

var (
	anOption = regexp.MustCompile(`(?s)\A--([^=]*)=(.*)\z`)
	aCount   = regexp.MustCompile(`\A(?:0|[1-9][0-9]{0,8})\z`)
)

func isOneOf(l string) func(string) bool {
	return func(s string) bool { return slices.Contains(strings.Split(l, "|"), s) }
}

func isFrom(least, most int) func(string) bool {
	return func(s string) bool {
		n, _ := strconv.Atoi(s)
		return aCount.MatchString(s) && n >= least && n <= most
	}
}

// mayBe tells of each option which values it may have.
func mayBe() map[string]func(string) bool {
	return map[string]func(string) bool{
		"format": isOneOf("text|dump"), "features": func(string) bool { return true }, "outputs": isFrom(1, 64), "tidy": isOneOf("yes|no"), "lost": isOneOf("yes|no"),
		"block": isFrom(1, 65536), "batch": isOneOf("dense|csv|sparse"), "engine": isOneOf("descent|quick|lanes|code|bins"), "workers": isFrom(1, 64),
		"output": isFrom(0, 999999999), "k": isFrom(0, 999999999), "columns": isFrom(1, 65536), "trees": isFrom(0, 1000), "deep": isFrom(0, 12),
		"least": isFrom(1, 65536), "num": isFrom(1, 1<<20), "den": isFrom(1, 1<<20),
	}
}

// judge has what a run's arguments say, and its files.
type judge struct {
	values  map[string]string
	models  []api.Ensemble
	vectors [][]float64
	labels  []float64
}

func (j *judge) value(name string) string {
	if v, ok := j.values[name]; ok {
		return v
	}
	return allOptions()[name].plain
}

func (j *judge) count(name string) int {
	n, _ := strconv.Atoi(j.value(name))
	return n
}

// answerByWords is what a run writes, and its exit code.
func answerByWords(args []string, files [][]byte) (string, int) {
	if len(args) == 0 {
		return "fault argument 0\n", 2
	}
	c, ok := allCommands()[args[0]]
	if !ok {
		return "fault argument 0\n", 2
	}
	j := &judge{values: map[string]string{}}
	for i, arg := range args {
		if i == 0 {
			continue
		}
		m := anOption.FindStringSubmatch(arg)
		if m == nil {
			return fmt.Sprintf("fault argument %d\n", i), 2
		}
		_, twice := j.values[m[1]]
		if twice || !slices.Contains(strings.Fields(c.options), m[1]) || !mayBe()[m[1]](m[2]) {
			return fmt.Sprintf("fault argument %d\n", i), 2
		}
		j.values[m[1]] = m[2]
	}
	if len(files) != len(c.files) {
		return "fault files\n", 2
	}
	for i, file := range files {
		said := ""
		if c.files[i] == small {
			said = j.model(file)
		} else {
			said = j.batch(args[0], file)
		}
		if said != "" {
			return fmt.Sprintf("fault file %d code %s\n", i, said), 1
		}
	}
	out, why, more := j.command(args[0])
	if why != api.OK {
		return fmt.Sprintf("fault code %d%s\n", why, more), 3
	}
	return out, 0
}

// model reads a model; what is said of its fault, where there is one.
func (j *judge) model(file []byte) string {
	if j.value("format") == "text" {
		e, why, fault := text.Parse(string(file))
		j.models = append(j.models, e)
		if why != api.OK {
			return fmt.Sprintf("%d line %d rule %d", why, fault.Line, fault.Rule)
		}
		return ""
	}
	head := api.Ensemble{Name: "dump", Outputs: j.count("outputs"), Base: make([]int64, j.count("outputs"))}
	if names, ok := j.values["features"]; ok {
		head.Features = strings.Split(names, ",")
	}
	e, why, place := dumps.Read(file, head)
	j.models = append(j.models, e)
	switch {
	case why == api.OK:
		return ""
	case place == "":
		return fmt.Sprint(int(why))
	}
	return fmt.Sprintf("%d place %s", why, place)
}

func (j *judge) batch(command string, file []byte) string {
	var why api.Errno
	var fault api.Fault
	columns := j.count("columns")
	if len(j.models) > 0 {
		columns = len(j.models[0].Features)
	}
	form := j.value("batch")
	if command == "rank" || command == "learn" {
		form = "sparse"
	}
	switch form {
	case "dense":
		j.vectors, why, fault = batch.Dense(string(file), columns)
	case "csv":
		j.vectors, why, fault = batch.Csv(string(file), j.models[0].Features)
	case "sparse":
		j.vectors, j.labels, why, fault = batch.Sparse(string(file), columns, j.value("lost") == "yes")
	}
	if why != api.OK {
		return fmt.Sprintf("%d line %d rule %d", why, fault.Line, fault.Rule)
	}
	return ""
}

func (j *judge) command(name string) (string, api.Errno, string) {
	var e api.Ensemble
	if len(j.models) > 0 {
		e = j.models[0]
	}
	print := func(e api.Ensemble, why api.Errno) (string, api.Errno, string) {
		if why != api.OK {
			return "", why, ""
		}
		s, why := text.Print(e)
		return s, why, ""
	}
	switch name {
	case "check":
		return "ok\n", api.OK, ""
	case "dump":
		return print(e, api.OK)
	case "slim":
		return print(slim.Slim(e))
	case "merge":
		m, why, at := patch.Merge(j.models[0], j.models[1], j.models[2])
		s, no, _ := print(m, why)
		return s, no, fmt.Sprint(" at ", at)
	case "code":
		p, why := code.Compile(e)
		if why == api.OK && j.value("tidy") == "yes" {
			p, why = code.Tidy(p)
		}
		if why != api.OK {
			return "", why, ""
		}
		s, why := code.Print(p)
		return s, why, ""
	case "image":
		f, why := blocks.Compile(e, j.count("block"))
		if why != api.OK {
			return "", why, ""
		}
		b, why := image.Encode(f)
		return string(b), why, ""
	case "equal":
		same, x, why := cells.Equal(j.models[0], j.models[1])
		s := "differ"
		for _, v := range x {
			s += " " + floats.Shortest(v)
		}
		if same {
			s = "equal"
		}
		return s + "\n", why, ""
	case "learn":
		return j.learn()
	}
	return j.vectorCommand(name, e)
}

func (j *judge) vectorCommand(name string, e api.Ensemble) (string, api.Errno, string) {
	s := ""
	switch name {
	case "top":
		l, _, why := cascade.Top(e, j.vectors, j.count("output"), j.count("k"))
		return strings.Trim(fmt.Sprint(l), "[]") + "\n", why, ""
	case "rank":
		return j.rank(e)
	}
	for _, x := range j.vectors {
		switch name {
		case "score":
			sums, why := trees.Score(e, x)
			if why != api.OK {
				return "", why, ""
			}
			for i, v := range sums {
				s += strings.Repeat(" ", min(i, 1)) + fixed.Print(v)
			}
			s += "\n"
		case "class":
			output, many, why := cascade.Class(e, x)
			if why != api.OK {
				return "", why, ""
			}
			s += fmt.Sprintln(output, many)
		case "reasons":
			l, why := explain.Reasons(e, x)
			if why != api.OK {
				return "", why, ""
			}
			s += strings.Join(append(l, "", ""), "\n")
		}
	}
	return s, api.OK, ""
}

func (j *judge) rank(e api.Ensemble) (string, api.Errno, string) {
	if j.count("output") >= e.Outputs {
		return "", api.ErrRange, ""
	}
	var scores []int64
	var hit []bool
	for i, x := range j.vectors {
		sums, _ := trees.Score(e, x)
		scores, hit = append(scores, sums[j.count("output")]), append(hit, j.labels[i] > 0)
	}
	auc, why := rank.Auc(scores, hit)
	average, no := rank.Average(scores, hit)
	if why != api.OK {
		return "", why, ""
	}
	a, _ := limbs.Write(auc)
	b, _ := limbs.Write(average)
	return "auc " + a + "\naverage " + b + "\n", no, ""
}

func (j *judge) learn() (string, api.Errno, string) {
	var targets []int64
	for _, label := range j.labels {
		v, why := fixed.Nearest(label)
		if why != api.OK {
			return "", why, ""
		}
		targets = append(targets, v)
	}
	e, why := learn.Fit(j.vectors, targets, api.Lesson{Trees: j.count("trees"), Deep: j.count("deep"), Least: j.count("least"), Num: int64(j.count("num")), Den: int64(j.count("den"))})
	if why != api.OK {
		return "", why, ""
	}
	s, why := text.Print(e)
	return s, why, ""
}

func someNumber(r *rand.Rand) float64 {
	v := pick(r, 0, minus0, 1, 2, 3, -1, 0.5, 0.1, 1e300, 1023)
	switch r.IntN(6) {
	case 0:
		return math.Nextafter(v, endless)
	case 1:
		return math.Nextafter(v, -endless)
	}
	return v
}

func anyNumber(r *rand.Rand) float64 {
	return pick(r, nan, endless, -endless, someNumber(r), someNumber(r))
}

func someCats(r *rand.Rand) []int {
	l := []int{r.IntN(4)}
	for r.IntN(2) == 0 {
		l = append(l, l[len(l)-1]+1+r.IntN(3))
	}
	return l
}

// someTree is a right tree whose nodes are numbered at random.
func someTree(r *rand.Rand, inner, features, outputs int) api.Tree {
	value := func() api.Node {
		return api.Node{Kind: api.NodeLeaf, Value: pick(r, 0, 1, -1, r.Int64N(5000000)-2500000, 1000000)}
	}
	nodes := []api.Node{value()}
	for range inner {
		i := r.IntN(len(nodes))
		for nodes[i].Kind != api.NodeLeaf {
			i = r.IntN(len(nodes))
		}
		n := api.Node{Kind: api.NodeNumber, Feature: r.IntN(features), Threshold: someNumber(r), Missing: api.Side(1 + r.IntN(2)), Left: len(nodes), Right: len(nodes) + 1}
		if r.IntN(4) == 0 {
			n.Kind, n.Threshold, n.Cats = api.NodeCats, 0, someCats(r)
		}
		if r.IntN(2) == 0 {
			n.Left, n.Right = n.Right, n.Left
		}
		nodes[i] = n
		nodes = append(nodes, value(), value())
	}
	return api.Tree{Output: r.IntN(outputs), Nodes: nodes}
}

func someEnsemble(r *rand.Rand, many int) api.Ensemble {
	outputs := 1 + r.IntN(3)
	e := api.Ensemble{Name: "some", Features: []string{"a", "b", "c"}[:1+r.IntN(3)], Outputs: outputs, Base: make([]int64, outputs)}
	for i := range e.Base {
		e.Base[i] = r.Int64N(3000000) - 1500000
	}
	for range many {
		e.Trees = append(e.Trees, someTree(r, r.IntN(5), len(e.Features), outputs))
	}
	return e
}

func someVector(r *rand.Rand, d int) []float64 {
	x := make([]float64, d)
	for i := range x {
		x[i] = anyNumber(r)
	}
	return x
}

func someVectors(r *rand.Rand, n, d int) [][]float64 {
	l := make([][]float64, n)
	for i := range l {
		l[i] = someVector(r, d)
	}
	return l
}

// written is a text of an ensemble whose nodes stand as they are numbered.
func written(e api.Ensemble) string {
	b := strings.Builder{}
	fmt.Fprintf(&b, "thicket 1\nname %s\noutputs %d\nbase", e.Name, e.Outputs)
	for _, v := range e.Base {
		b.WriteString(" " + fixed.Print(v))
	}
	fmt.Fprintf(&b, "\nfeatures %d\n", len(e.Features))
	for _, name := range e.Features {
		b.WriteString("feature " + name + "\n")
	}
	fmt.Fprintf(&b, "trees %d\n", len(e.Trees))
	for _, g := range e.Trees {
		fmt.Fprintf(&b, "tree %d %d\n", g.Output, len(g.Nodes))
		for _, n := range g.Nodes {
			side := []string{"", "left", "right"}[n.Missing]
			switch n.Kind {
			case api.NodeLeaf:
				b.WriteString("leaf " + fixed.Print(n.Value) + "\n")
			case api.NodeNumber:
				fmt.Fprintf(&b, "split %s <= %s to %d %d missing %s\n", e.Features[n.Feature], floats.Exact(n.Threshold), n.Left, n.Right, side)
			case api.NodeCats:
				fmt.Fprintf(&b, "split %s in %s to %d %d missing %s # \xff\n", e.Features[n.Feature], strings.Trim(fmt.Sprint(n.Cats), "[]"), n.Left, n.Right, side)
			}
		}
	}
	b.WriteString("end\n")
	return b.String()
}

// asDump is an ensemble's dump, its trees' outputs set right.
func asDump(e api.Ensemble) string {
	e = trees.Copy(e)
	for k := range e.Trees {
		e.Trees[k].Output = k % e.Outputs
	}
	b, why, _ := dumps.Write(e)
	if why != api.OK {
		return dumped
	}
	return string(b)
}

// someRun is arguments and files that are right, or nearly so.
func someRun(r *rand.Rand) ([]string, [][]byte) {
	name := pick(r, "check", "dump", "slim", "code", "image", "score", "score", "score", "class", "reasons", "top", "rank", "rank", "equal", "merge", "merge", "learn")
	e := someEnsemble(r, r.IntN(6))
	args := []string{name}
	format, form, lost := pick(r, "text", "text", "dump"), pick(r, "dense", "csv", "sparse"), pick(r, "yes", "no")
	for _, option := range optionsOf(name) {
		v := allOptions()[option]
		value := pick(r, append(strings.Fields(v.right), v.plain)...)
		switch option {
		case "format":
			value = format
		case "batch":
			value = form
		case "lost":
			value = lost
		case "features":
			value = strings.Join(e.Features, ",")
		case "outputs":
			value = strconv.Itoa(e.Outputs)
		case "output":
			value = strconv.Itoa(r.IntN(e.Outputs + 1))
		case "num":
			value = pick(r, "1", "1", "2")
		case "columns":
			value = strconv.Itoa(len(e.Features))
		case "trees":
			value = pick(r, "0", "1", "3")
		}
		args = append(args, "--"+option+"="+value)
	}
	if format == "text" && form == "dense" && r.IntN(2) == 0 {
		args = args[:1] // all options are as without them, or nearly so
	}
	r.Shuffle(len(args)-1, func(i, j int) { args[i+1], args[j+1] = args[j+1], args[i+1] })
	if name == "rank" || name == "learn" {
		form = "sparse"
	}
	return args, someFiles(r, name, format, form, lost == "yes", e)
}

func someFiles(r *rand.Rand, name, format, form string, lost bool, e api.Ensemble) [][]byte {
	var files [][]byte
	for i, f := range allCommands()[name].files {
		if f != small {
			files = append(files, []byte(someBatch(r, form, lost, e)))
			continue
		}
		m := e
		if i > 0 && r.IntN(2) == 0 {
			m = someChanged(r, e)
		}
		if format == "dump" {
			files = append(files, []byte(asDump(m)))
		} else {
			files = append(files, []byte(written(m)))
		}
	}
	return files
}

func someBatch(r *rand.Rand, form string, lost bool, e api.Ensemble) string {
	l := someVectors(r, pick(r, 0, 1, 2, 9, 30), len(e.Features))
	labels := make([]float64, len(l))
	for i := range labels {
		labels[i] = pick(r, 1, 0, -1, 0.25, 2)
		if r.IntN(300) == 0 {
			labels[i] = pick(r, nan, endless, 1e300, 2e6, minus0)
		}
	}
	s := ""
	switch form {
	case "dense":
		s, _ = batch.PrintDense(l)
	case "csv":
		s, _ = batch.PrintCsv(e.Features, l)
	case "sparse":
		s, _ = batch.PrintSparse(l, labels, lost)
	}
	return s
}

// someChanged has a tree more or fewer, or another head.
func someChanged(r *rand.Rand, e api.Ensemble) api.Ensemble {
	e = trees.Copy(e)
	switch r.IntN(6) {
	case 0:
		e.Base[0]++
	case 1:
		e.Name = pick(r, "other", "another")
	case 2:
		if len(e.Trees) > 0 {
			e.Trees = slices.Delete(e.Trees, 0, 1)
		}
	default:
		e.Trees = slices.Insert(e.Trees, r.IntN(len(e.Trees)+1), someTree(r, r.IntN(3), len(e.Features), e.Outputs))
	}
	return e
}

// spoil turns bytes of a run's arguments or files, or leaves some out, or adds one.
func spoil(r *rand.Rand, args []string, files [][]byte) ([]string, [][]byte) {
	switch r.IntN(8) {
	case 0:
		i := r.IntN(len(args))
		b := []byte(args[i])
		if len(b) > 0 {
			b[r.IntN(len(b))] = byte(pick(r, '=', '-', '0', '1', ',', r.IntN(256)))
		}
		args[i] = string(b)
	case 1:
		args = append(args, pick(r, "", "--", "x", "--format=text", "--format=dump", "--batch=csv", "--lost=yes", "--k=3", "--output=0", "--block=1", args[len(args)-1]))
	case 2:
		files = append(files, nil)
	case 3:
		files = files[1:]
	default:
		i := r.IntN(len(files))
		if b := files[i]; len(b) > 0 {
			switch at := r.IntN(len(b)); r.IntN(3) {
			case 0:
				b[at] = byte(pick(r, '\n', ' ', '0', '"', r.IntN(256)))
			case 1:
				files[i] = b[:at]
			case 2:
				files[i] = slices.Delete(b, at, at+1)
			}
		}
	}
	return args, files
}

// Any runs: right ones, and such as are nearly so.
func TestAnyRuns(t *testing.T) {
	r := source()
	exits, commands := map[int]int{}, map[string]int{}
	for i := range 6000 {
		args, files := someRun(r)
		if i%3 == 0 {
			args, files = spoil(r, args, files)
		}
		out, exit := Run(args, files)
		want, code := answerByWords(args, files)
		if string(out) != want || exit != code {
			t.Fatalf("P30: %q of %q: %q, exit %d, not %q, exit %d", args, files, out, exit, want, code)
		}
		if exit != 0 && (strings.Count(want, "\n") != 1 || !strings.HasPrefix(want, "fault ") || !strings.HasSuffix(want, "\n")) {
			t.Fatalf("P16: not one line that begins with fault: %q", want)
		}
		exits[exit]++
		if exit == 0 {
			commands[args[0]]++
		}
	}
	for exit := range 4 {
		if exits[exit] < 100 {
			t.Error("few exits of this code:", exit, exits[exit])
		}
	}
	for name := range allCommands() {
		if commands[name] < 50 {
			t.Error("few runs of this command:", name, commands[name])
		}
	}
}

func rightOne(e api.Ensemble) bool { return rules.Check(e) == api.Broken{} }

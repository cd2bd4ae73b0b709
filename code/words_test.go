package code

import (
	"fmt"
	"math"
	"math/rand/v2"
	"slices"
	"testing"

	"thicket/api"
	"thicket/trees"
)

// A second opinion, from the chapter's words.

// checkByWords is the first operation that is not right: -1, if there is none.
func checkByWords(p api.Program) int {
	for i, o := range p.Ops {
		zero := map[string]bool{
			"Feature": o.Feature == 0, "Threshold": math.Float64bits(o.Threshold) == 0, "Cats": len(o.Cats) == 0, "Missing": o.Missing == 0, "Output": o.Output == 0, "Value": o.Value == 0, "To": o.To == 0,
		}
		fine := map[string]bool{
			"Feature": 0 <= o.Feature && o.Feature <= p.Features-1, "Threshold": o.Threshold == o.Threshold, "Cats": len(o.Cats) > 0, "Missing": o.Missing == left || o.Missing == right,
			"Output": 0 <= o.Output && o.Output <= p.Outputs-1, "Value": true, "To": i+1 <= o.To && o.To <= len(p.Ops)-1,
		}
		for k, c := range o.Cats {
			fine["Cats"] = fine["Cats"] && c >= 0 && c <= 1023 && (k == 0 || o.Cats[k-1] < c)
		}
		uses, known := map[api.OpKind][]string{
			api.OpTest: {"Feature", "Threshold", "Missing", "To"}, api.OpIn: {"Feature", "Cats", "Missing", "To"}, api.OpAdd: {"Output", "Value"}, api.OpJump: {"To"}, api.OpEnd: nil,
		}[o.Kind]
		ok := known && (i < len(p.Ops)-1 || o.Kind == api.OpEnd)
		for field := range zero {
			if slices.Contains(uses, field) {
				ok = ok && fine[field]
			} else {
				ok = ok && zero[field]
			}
		}
		if !ok {
			return i
		}
	}
	return -1
}

// sideByWords is whether a number goes on with the next operation.
func sideByWords(o api.Op, v float64) bool {
	if v != v {
		return o.Missing == left
	}
	if o.Kind == api.OpTest {
		return v < o.Threshold || v == o.Threshold
	}
	for _, c := range o.Cats {
		if float64(c)-v == 0 {
			return true
		}
	}
	return false
}

// runByWords is what a right program does.
func runByWords(p api.Program, x []float64) ([]int64, []int) {
	sums := make([]int64, p.Outputs)
	var trace []int
	for at := 0; ; {
		trace = append(trace, at)
		switch o := p.Ops[at]; o.Kind {
		case api.OpEnd:
			return sums, trace
		case api.OpJump:
			at = o.To
		case api.OpAdd:
			sums[o.Output] += o.Value
			at++
		default:
			if sideByWords(o, x[o.Feature]) {
				at++
			} else {
				at = o.To
			}
		}
	}
}

// compileByWords is an ensemble's program, node by node.
func compileByWords(e api.Ensemble) api.Program {
	p := api.Program{Features: len(e.Features), Outputs: e.Outputs}
	emit := func(o api.Op) int { p.Ops = append(p.Ops, o); return len(p.Ops) - 1 }
	for i, v := range e.Base {
		emit(plus(i, v))
	}
	for _, t := range e.Trees {
		leaves := 0
		for _, n := range t.Nodes {
			if n.Kind == api.NodeLeaf {
				leaves++
			}
		}
		var jumps []int
		var node func(i int)
		node = func(i int) {
			n := t.Nodes[i]
			switch n.Kind {
			case api.NodeLeaf:
				emit(plus(t.Output, n.Value))
				if leaves--; leaves > 0 {
					jumps = append(jumps, emit(leap(0)))
				}
				return
			case api.NodeNumber:
				i = emit(test(n.Feature, n.Threshold, n.Missing, 0))
			case api.NodeCats:
				i = emit(in(n.Feature, n.Missing, 0, n.Cats...))
			}
			node(n.Left)
			p.Ops[i].To = len(p.Ops)
			node(n.Right)
		}
		node(0)
		for _, i := range jumps {
			p.Ops[i].To = len(p.Ops)
		}
	}
	emit(end())
	return p
}

// tidyByWords is a right program, tidied.
func tidyByWords(p api.Program) api.Program {
	var lands func(i int) int
	lands = func(i int) int {
		switch o := p.Ops[i]; {
		case o.Kind == api.OpJump:
			return lands(o.To)
		case o.Kind == api.OpAdd && o.Value == 0:
			return lands(i + 1)
		}
		return i
	}
	real := map[int]bool{}
	var meet func(i int)
	meet = func(i int) {
		if real[i] {
			return
		}
		real[i] = true
		switch p.Ops[i].Kind {
		case api.OpTest, api.OpIn:
			meet(lands(i + 1))
			meet(lands(p.Ops[i].To))
		case api.OpAdd:
			meet(lands(i + 1))
		}
	}
	meet(lands(0))
	var rising []int
	for i := range p.Ops {
		if real[i] {
			rising = append(rising, i)
		}
	}
	// First with the old numbers; then those that stand for them.
	q := api.Program{Features: p.Features, Outputs: p.Outputs}
	anew := map[int]int{}
	for k, i := range rising {
		anew[i] = len(q.Ops)
		o := p.Ops[i]
		if o.Kind == api.OpTest || o.Kind == api.OpIn {
			o.To = lands(o.To)
		}
		q.Ops = append(q.Ops, o)
		if o.Kind != api.OpEnd && lands(i+1) != rising[k+1] {
			q.Ops = append(q.Ops, leap(lands(i+1)))
		}
	}
	for i, o := range q.Ops {
		if o.Kind == api.OpTest || o.Kind == api.OpIn || o.Kind == api.OpJump {
			q.Ops[i].To = anew[o.To]
		}
	}
	return q
}

// holds holds a right program to all that is promised of it, of these vectors.
func holds(t *testing.T, what string, p api.Program, vectors [][]float64) {
	t.Helper()
	if why, at := Check(p); why != api.OK || at != 0 {
		t.Fatalf("19.1: %s: %v: %d at %d", what, p, why, at)
	}
	q, why := Tidy(p)
	isCode(t, fmt.Sprintf("19.4: %s: Tidy(%v)", what, p), q, why, tidyByWords(p))
	if why, at := Check(q); why != api.OK || len(q.Ops) > len(p.Ops) {
		t.Errorf("19.9: %s: Tidy(%v) = %v: %d at %d", what, p, q, why, at)
	}
	again, why := Tidy(q)
	isCode(t, fmt.Sprintf("19.9: %s: Tidy of Tidy(%v)", what, p), again, why, q)
	for _, x := range vectors {
		sums, trace := runByWords(p, x)
		does(t, what, p, x, sums, trace)
		if l, _ := Trace(p, x); !slices.IsSortedFunc(l, func(a, b int) int {
			if a < b {
				return -1
			}
			return 1
		}) || len(l) > len(p.Ops) {
			t.Errorf("19.11: %s: Trace(%v, %v) = %v", what, p, x, l)
		}
		l, n, why := Run(q, x)
		if why != api.OK || !slices.Equal(l, sums) || n > len(trace) {
			t.Errorf("19.9: %s: Run(Tidy(%v), %v) = %v in %d, %d, not %v in at most %d", what, p, x, l, n, why, sums, len(trace))
		}
	}
	for _, r := range []api.Program{p, q} {
		s, why := Print(r)
		back, no, at := Read(s)
		if why != api.OK || no != api.OK || at != 0 || !Same(back, r) {
			t.Errorf("19.10: %s: Read(Print(%v)) = %v, %d, %d at %d", what, r, back, why, no, at)
		}
	}
	if t.Failed() {
		t.FailNow()
	}
}

// allPrograms yields all programs of n operations of which each is an end, adds 0 or 1, jumps ahead, or tests a feature of its own.
func allPrograms(n int, yield func(p api.Program)) {
	p := program(n, 1)
	var put func()
	put = func() {
		i := len(p.Ops)
		if i == n-1 {
			p.Ops = append(p.Ops, end())
			yield(p)
			p.Ops = p.Ops[:i]
			return
		}
		options := []api.Op{end(), plus(0, 0), plus(0, 1<<i)}
		for to := i + 1; to < n; to++ {
			options = append(options, leap(to), test(i, 0, left, to))
		}
		for _, o := range options {
			p.Ops = append(p.Ops, o)
			put()
			p.Ops = p.Ops[:i]
		}
	}
	put()
}

// Of all small programs: each way through them.
func TestAllSmallPrograms(t *testing.T) {
	for n := 1; n <= 6; n++ {
		many := 0
		allPrograms(n, func(p api.Program) {
			many++
			vectors := [][]float64{make([]float64, n)}
			for i, o := range p.Ops {
				if o.Kind != api.OpTest {
					continue
				}
				for _, x := range vectors {
					y := slices.Clone(x)
					y[i] = 1
					vectors = append(vectors, y)
				}
			}
			holds(t, "a small program", p, vectors)
		})
		if n == 6 && many != 13*11*9*7*5 {
			t.Error("programs:", many)
		}
	}
}

func someThreshold(r *rand.Rand) float64 {
	return []float64{0, minus0, 1, -1, 0.5, endless, -endless, 5e-324, 3, 1e300, math.Float64frombits(r.Uint64() &^ (1 << 62))}[r.IntN(11)]
}

func someNumber(r *rand.Rand) float64 {
	if r.IntN(4) == 0 {
		return nan
	}
	return someThreshold(r)
}

func someVectors(r *rand.Rand, many, features int) [][]float64 {
	var l [][]float64
	for range many {
		x := make([]float64, features)
		for i := range x {
			x[i] = someNumber(r)
		}
		l = append(l, x)
	}
	return l
}

func someSide(r *rand.Rand) api.Side { return api.Side(1 + r.IntN(2)) }

func someCats(r *rand.Rand) []int {
	var l []int
	for c := r.IntN(3); c < api.MaxCats && len(l) < 5; c += 1 + r.IntN(3)*r.IntN(300) {
		l = append(l, c)
	}
	return l
}

func someValue(r *rand.Rand) int64 {
	return []int64{0, 0, 1, -1, 1500000, math.MaxInt64, math.MinInt64, int64(r.Uint64())}[r.IntN(8)]
}

// someProgram is a right one of n operations.
func someProgram(r *rand.Rand, n int) api.Program {
	p := program(1+r.IntN(3), 1+r.IntN(3))
	for i := range n - 1 {
		to := i + 1 + r.IntN(n-i-1)
		if r.IntN(2) == 0 {
			to = min(i+1+r.IntN(4), n-1)
		}
		feature := r.IntN(p.Features)
		p.Ops = append(p.Ops, []api.Op{
			test(feature, someThreshold(r), someSide(r), to), in(feature, someSide(r), to, someCats(r)...), plus(r.IntN(p.Outputs), someValue(r)), leap(to), plus(r.IntN(p.Outputs), 0), end(),
		}[(r.IntN(16)+1)/3])
	}
	p.Ops = append(p.Ops, end())
	return p
}

func TestSomePrograms(t *testing.T) {
	r := source()
	for range 4000 {
		p := someProgram(r, 1+r.IntN(30))
		holds(t, "a program", p, someVectors(r, 6, p.Features))
	}
	for range 10 {
		p := someProgram(r, 2000)
		holds(t, "a long program", p, someVectors(r, 6, p.Features))
	}
}

// spoilt is a program in which something is set at random.
func spoilt(r *rand.Rand, p api.Program) api.Program {
	for range 1 + r.IntN(2) {
		i := r.IntN(len(p.Ops))
		o := &p.Ops[i]
		switch r.IntN(8) {
		case 0:
			o.Kind = api.OpKind(r.IntN(8))
		case 1:
			o.Feature = r.IntN(6) - 1
		case 2:
			o.Threshold = []float64{nan, minus0, 0, 1}[r.IntN(4)]
		case 3:
			o.Cats = []([]int){nil, {0}, {-1}, {1, 1}, {2, 1}, {1023}, {1024}, {}}[r.IntN(8)]
		case 4:
			o.Missing = api.Side(r.IntN(5))
		case 5:
			o.Output = r.IntN(5) - 1
		case 6:
			o.Value = int64(r.IntN(3))
		case 7:
			o.To = r.IntN(len(p.Ops)+3) - 1
		}
	}
	return p
}

func TestSpoiltPrograms(t *testing.T) {
	r := source()
	rights := 0
	for range 20000 {
		p := spoilt(r, someProgram(r, 1+r.IntN(12)))
		at := checkByWords(p)
		if at < 0 {
			rights++
			taken(t, "spoilt", p)
			continue
		}
		refused(t, "spoilt", p, api.ErrCode, at)
	}
	if rights < 1000 {
		t.Error("only", rights, "of them are right")
	}
}

// someTree is a right tree of some outputs, its nodes numbered at random.
func someTree(r *rand.Rand, inner, features, outputs int) api.Tree {
	nodes := []api.Node{leafOf(someValue(r))}
	for range inner {
		i := r.IntN(len(nodes))
		for nodes[i].Kind != api.NodeLeaf {
			i = r.IntN(len(nodes))
		}
		n := numberOf(r.IntN(features), someThreshold(r), someSide(r), len(nodes), len(nodes)+1)
		if r.IntN(3) == 0 {
			n = catsOf(n.Feature, n.Missing, n.Left, n.Right, someCats(r)...)
		}
		if r.IntN(2) == 0 {
			n.Left, n.Right = n.Right, n.Left
		}
		nodes[i] = n
		nodes = append(nodes, leafOf(someValue(r)), leafOf(someValue(r)))
	}
	return api.Tree{Output: r.IntN(outputs), Nodes: nodes}
}

func someEnsemble(r *rand.Rand, many, features, outputs int) api.Ensemble {
	e := api.Ensemble{Name: "m", Features: make([]string, features), Outputs: outputs}
	for range outputs {
		e.Base = append(e.Base, someValue(r))
	}
	for range many {
		e.Trees = append(e.Trees, someTree(r, r.IntN(10), features, outputs))
	}
	return e
}

func TestSomeEnsembles(t *testing.T) {
	r := source()
	for range 1500 {
		e := someEnsemble(r, r.IntN(6), 1+r.IntN(3), 1+r.IntN(3))
		p, why := Compile(e)
		isCode(t, "19.2: an ensemble", p, why, compileByWords(e))
		vectors := someVectors(r, 8, len(e.Features))
		holds(t, "an ensemble", p, vectors)
		for _, x := range vectors {
			want, _ := trees.Score(e, x)
			if l, n, why := Run(p, x); why != api.OK || !slices.Equal(l, want) || n > len(p.Ops) {
				t.Fatalf("19.8: Run(Compile(%v), %v) = %v in %d, %d, not %v", e, x, l, n, why, want)
			}
		}
	}
}

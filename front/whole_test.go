package front

import (
	"bytes"
	"fmt"
	"math/big"
	"math/rand/v2"
	"slices"
	"strings"
	"testing"

	"thicket/api"
	"thicket/batch"
	"thicket/bins"
	"thicket/blocks"
	"thicket/cells"
	"thicket/code"
	"thicket/dumps"
	"thicket/explain"
	"thicket/fixed"
	"thicket/foreign"
	"thicket/image"
	"thicket/lanes"
	"thicket/learn"
	"thicket/limbs"
	"thicket/quick"
	"thicket/rules"
	"thicket/shop"
	"thicket/slim"
	"thicket/text"
	"thicket/trees"
)

// What the document promises as a whole, and its ten examples.

func parsed(t *testing.T, s string) api.Ensemble {
	t.Helper()
	e, why, fault := text.Parse(s)
	if why != api.OK {
		t.Fatalf("%q: %d, %v", s, why, fault)
	}
	return e
}

// all takes the errors of calls that must have none.
func all(t *testing.T, what string, l ...api.Errno) {
	t.Helper()
	for _, why := range l {
		if why != api.OK {
			t.Fatalf("%s: error %d", what, why)
		}
	}
}

func TestTenExamples(t *testing.T) {
	for _, args := range scoreArgs([]int{1, api.MaxTrees}, []int{1}) {
		says(t, args, "1.5\n-1.75\n1.5\n-1.75\n", 0, small, "0 0\n1 0\nnan 7\ninf -0\n")
	}
	says(t, words("dump"), small, 0, small)
	says(t, words("check"), "fault file 0 code 191 line 4 rule 13\n", 1, with("base 0.5", "base 4611686018427.387904"))

	bare := parsed(t, with("base 0.5", "base 0"))
	s, why := foreign.Write(bare)
	all(t, "example 4", why)
	for _, row := range []string{"split_feature=0", "threshold=0.5", "decision_type=10", "left_child=-1", "right_child=-2", "leaf_value=1 -2.25"} {
		if !strings.Contains(s, "\n"+row+"\n") {
			t.Error("example 4: no row", row)
		}
	}
	if e, why, _ := foreign.Read(s, "m"); why != api.OK || !trees.Same(e, bare) {
		t.Error("example 4:", e, why)
	}
	b, why, _ := dumps.Write(bare)
	if why != api.OK || !bytes.Contains(b, []byte(`"split_condition":0.5000000000000001,"yes":1,"no":2,"missing":1`)) {
		t.Error("example 5:", string(b), why)
	}
	if e, why, _ := dumps.Read(b, bare); why != api.OK || !trees.Same(e, bare) {
		t.Error("example 5:", e, why)
	}
	says(t, words("dump --format=dump --features=a,b"), strings.Replace(with("base 0.5", "base 0"), "name m", "name dump", 1), 0, string(b))

	e := parsed(t, small)
	f, why := blocks.Compile(e, 1)
	if all(t, "example 6", why); len(f.Blocks) != 1 || fmt.Sprint(f.Blocks[0].Lists) != "[{0 [{0.5 [] 0 0 1}] [] []}]" {
		t.Error("example 6:", f)
	}
	says(t, words("code --tidy=yes"), "code 2 1\nadd 0 0.5\ntest 0 <= 0.5 missing left else 4\nadd 0 1\njump 5\nadd 0 -2.25\nend\n", 0, small)
	says(t, words("equal"), "differ 0.5000000000000001 0\n", 0, small, with("<= 0.5", "<= 0.5000000000000001"))
	l, why := explain.Shapley(e, 0, []float64{1, 0}, [][]float64{{0, 0}})
	all(t, "example 9", why)
	for i, want := range []string{"-3250000", "0"} {
		if s, _ := limbs.Write(l[i]); s != want {
			t.Error("example 9:", s, want)
		}
	}

	k := shop.New()
	k.Put("m", small)
	k.Put("m", with("leaf 1", "leaf 7"))
	all(t, "example 10", k.Pin("m", 1))
	again, why, _ := shop.Replay(k.Journal())
	all(t, "example 10", why)
	for _, k := range []*shop.Shop{k, again} {
		if sums, n, why := k.Score("m", "k", []float64{0, 0}); why != api.OK || n != 1 || !slices.Equal(sums, []int64{1500000}) {
			t.Error("example 10:", sums, n, why)
		}
		if n, _, _ := k.Put("m", small); n != 3 {
			t.Error("example 10: the next version is", n)
		}
	}
}

// score is a way to score a vector.
type score func(x []float64) ([]int64, api.Errno)

// waysOf are all ways to score an ensemble, in blocks of b trees.
func waysOf(t *testing.T, e api.Ensemble, b int) map[string]score {
	t.Helper()
	f, why := blocks.Compile(e, b)
	bytes, no := image.Encode(f)
	read, nor, _ := image.Decode(bytes)
	p, not := code.Compile(e)
	tidy, none := code.Tidy(p)
	m, never := bins.Compile(e)
	s, neither := slim.Slim(e)
	all(t, "P5: an ensemble is not taken", why, no, nor, not, none, never, neither)
	run := func(p api.Program) score {
		return func(x []float64) ([]int64, api.Errno) {
			l, _, why := code.Run(p, x)
			return l, why
		}
	}
	eight := func(f api.Form) score {
		k, _ := lanes.New(f)
		return func(x []float64) ([]int64, api.Errno) {
			l, why, _ := k.Score([][]float64{x})
			return slices.Concat(l...), why
		}
	}
	one := func(f api.Form) score {
		q, _ := quick.New(f)
		return q.Score
	}
	k := shop.New()
	source, _ := text.Print(e)
	k.Put("m", source)
	return map[string]score{
		"quick": one(f), "lanes": eight(f), "quick of an image": one(read), "lanes of an image": eight(read), "code": run(p), "code, tidied": run(tidy),
		"bins":   func(x []float64) ([]int64, api.Errno) { return bins.Run(m, x) },
		"slim":   func(x []float64) ([]int64, api.Errno) { return trees.Score(s, x) },
		"a shop": func(x []float64) ([]int64, api.Errno) { l, _, why := k.Score("m", "", x); return l, why },
	}
}

func TestOneMeaning(t *testing.T) {
	r := source()
	for range 100 {
		e := someEnsemble(r, r.IntN(9))
		ways := waysOf(t, e, pick(r, 1, 2, 3, 16, api.MaxTrees))
		for range 20 {
			x := someVector(r, len(e.Features))
			want, why := trees.Score(e, x)
			all(t, "P5", why)
			for name, score := range ways {
				if l, why := score(x); why != api.OK || !slices.Equal(l, want) {
					t.Fatalf("P5: %s: %v of %v and %v, %d, not %v", name, l, e, x, why, want)
				}
			}
		}
	}
}

// heavy is a right ensemble whose outputs' rooms are as great as may be.
func heavy(r *rand.Rand) api.Ensemble {
	e := someEnsemble(r, 1+r.IntN(6))
	left := slices.Repeat([]int64{api.MaxSum - 1}, e.Outputs)
	for i := range e.Base {
		e.Base[i] = r.Int64N(left[i])
		left[i] -= e.Base[i]
		e.Base[i] *= pick(r, int64(1), -1)
	}
	for k, g := range e.Trees {
		most := r.Int64N(left[g.Output] + 1)
		if k == len(e.Trees)-1 {
			most = left[g.Output]
		}
		left[g.Output] -= most
		for i := range g.Nodes {
			if g.Nodes[i].Kind == api.NodeLeaf {
				g.Nodes[i].Value = pick(r, most, -most, 0)
			}
		}
	}
	return e
}

// Sums of Base and the leaves of any trees, as whole numbers, are such as int64 says; and all engines say them.
func TestNothingWraps(t *testing.T) {
	r := source()
	great := 0
	for range 100 {
		e := heavy(r)
		if !rightOne(e) {
			t.Fatal("P6: not a right ensemble:", rules.Say(rules.Check(e)))
		}
		ways := waysOf(t, e, 2)
		for range 10 {
			x := someVector(r, len(e.Features))
			sums := make([]*big.Int, e.Outputs)
			for i, v := range e.Base {
				sums[i] = big.NewInt(v)
			}
			for _, k := range r.Perm(len(e.Trees)) { // in any order, none left out on the way
				_, v, _ := trees.Leaf(e.Trees[k], x)
				sum := sums[e.Trees[k].Output]
				if sum.Add(sum, big.NewInt(v)); !sum.IsInt64() || sum.CmpAbs(big.NewInt(api.MaxSum)) >= 0 {
					t.Fatal("P6: a sum wraps:", sum)
				}
			}
			for name, score := range ways {
				l, why := score(x)
				if all(t, "P6", why); !slices.EqualFunc(l, sums, func(v int64, s *big.Int) bool { return s.Cmp(big.NewInt(v)) == 0 }) {
					t.Fatalf("P6: %s: %v, not %v", name, l, sums)
				}
			}
			if sums[0].CmpAbs(big.NewInt(1<<61)) > 0 {
				great++
			}
		}
		e.Base[e.Trees[len(e.Trees)-1].Output] = api.MaxSum // one more than may be
		if rightOne(e) {
			t.Fatal("P6: an ensemble with too great a room is right")
		}
	}
	if great < 50 {
		t.Error("few great sums:", great)
	}
}

// The least line that breaks a rule is told, whatever stands behind it; what breaks none is right.
func TestFirstFault(t *testing.T) {
	r := source()
	told := 0
	for range 500 {
		e := someEnsemble(r, 1+r.IntN(3))
		lines := strings.SplitAfter(written(e), "\n")
		lines = lines[:len(lines)-1]
		first := 1 + r.IntN(len(lines))
		lines[first-1] = pick(r, "!\n", "x\n", "leaf x\n", "base\n", "end end\n", "tree 99 1\n")
		_, why, fault := text.Parse(strings.Join(lines, ""))
		if why != api.ErrLine || fault.Line != first {
			t.Fatalf("P7: line %d, not %d of %q: %d", fault.Line, first, lines, why)
		}
		for range r.IntN(4) { // more faults behind it change nothing
			i := first + r.IntN(len(lines)-first+1)
			lines = slices.Insert(lines, i, pick(r, "!\n", "x\n", "\n", "leaf 1 1\n"))
		}
		want := fmt.Sprintf("fault file 0 code 191 line %d rule %d\n", fault.Line, fault.Rule)
		says(t, words("check"), want, 1, strings.Join(lines, ""))
		told++

		// One word turned: right, or one fault.
		turned := []byte(written(e))
		turned[r.IntN(len(turned))] = byte(pick(r, '0', '1', '9', '.', ' ', 'a', '\n'))
		m, why, fault := text.Parse(string(turned))
		if (why == api.OK) != (fault == api.Fault{}) || why == api.OK && !rightOne(m) {
			t.Fatalf("P7: %q: %d, %v", turned, why, fault)
		}
	}
	if told == 0 {
		t.Error("nothing was told")
	}
}

// Each right ensemble has one canonical text, from which it comes back, thresholds bit for bit.
func TestCanonicalText(t *testing.T) {
	r := source()
	for range 300 {
		e := someEnsemble(r, r.IntN(6))
		s, why := text.Print(e)
		all(t, "P8", why)
		want, _ := trees.Model(e)
		if got := parsed(t, s); !trees.Same(got, want) {
			t.Fatalf("P8: %v, not %v", got, want)
		}
		says(t, words("dump"), s, 0, s)
		says(t, words("dump"), s, 0, written(e))
	}
}

// A batch's scores are those of its vectors, one by one: of each engine, whatever stood ahead, whoever stands beside.
func TestBatches(t *testing.T) {
	r := source()
	for range 60 {
		e := someEnsemble(r, r.IntN(6))
		l := someVectors(r, 1+r.IntN(40), len(e.Features))
		f, _ := blocks.Compile(e, 2)
		q, _ := quick.New(f)
		k, _ := lanes.New(f)
		source, _ := text.Print(e)
		s := shop.New()
		s.Put("m", source)
		for range 3 {
			var want [][]int64
			out := ""
			for _, x := range l {
				sums, _ := trees.Score(e, x)
				want = append(want, sums)
				var words []string
				for _, v := range sums {
					words = append(words, fixed.Print(v))
				}
				out += strings.Join(words, " ") + "\n"
			}
			a, why, _ := q.All(l)
			b, no, _ := k.Score(l)
			c, _, nor := s.Scores("m", make([]string, len(l)), l, 1+r.IntN(9))
			all(t, "P9", why, no, nor)
			for _, got := range [][][]int64{a, b, c} {
				if !slices.EqualFunc(got, want, slices.Equal) {
					t.Fatalf("P9: %v, not %v", got, want)
				}
			}
			says(t, words(fmt.Sprintf("score --engine=%s --workers=%d", pick(r, engines...), 1+r.IntN(9))), out, 0, source, dense(l))
			r.Shuffle(len(l), func(i, j int) { l[i], l[j] = l[j], l[i] })
		}
	}
}

// What is written in another booster's format is read back as the same, and says there what it says here.
func TestBridges(t *testing.T) {
	r := source()
	said := map[string]int{}
	for range 400 {
		e := someEnsemble(r, r.IntN(6))
		for k := range e.Trees {
			e.Trees[k].Output = k % e.Outputs
		}
		want, _ := trees.Model(e)
		if b, why, _ := dumps.Write(e); why == api.OK {
			got, no, place := dumps.Read(b, e)
			if no != api.OK || !alikeButNoughts(got, want) {
				t.Fatalf("P10: a dump: %v, %d %s, not %v", got, no, place, want)
			}
			said["dump"]++
		}
		for i := range e.Base { // there is none there
			e.Base[i], want.Base[i] = 0, 0
		}
		if s, why := foreign.Write(e); why == api.OK {
			got, no, row := foreign.Read(s, e.Name)
			all(t, fmt.Sprint("P10: a foreign text, row ", row), no)
			for range 5 {
				x := someVector(r, len(e.Features))
				a, _ := trees.Score(e, x)
				b, _ := trees.Score(got, x)
				if !slices.Equal(a, b) {
					t.Fatalf("P10: a foreign text says %v, not %v", b, a)
				}
			}
			said["foreign"]++
		}
	}
	if said["dump"] < 100 || said["foreign"] < 50 {
		t.Error("few bridges:", said)
	}
}

// alikeButNoughts takes thresholds of -0 as 0.
func alikeButNoughts(a, b api.Ensemble) bool {
	for _, e := range []*api.Ensemble{&a, &b} {
		*e = trees.Copy(*e)
		for _, g := range e.Trees {
			for i := range g.Nodes {
				g.Nodes[i].Threshold += 0
			}
		}
	}
	return trees.Same(a, b)
}

// From a compiled form, from its image, from ranks the trees come back; of an image no byte can be another.
func TestNothingIsLost(t *testing.T) {
	r := source()
	for range 60 {
		e := someEnsemble(r, r.IntN(6))
		want, _ := trees.Model(e)
		s, _ := text.Print(e)
		b := pick(r, 1, 2, 16)
		out, exit := run(words(fmt.Sprint("image --block=", b)), s)
		f, why, at := image.Decode([]byte(out))
		if exit != 0 || why != api.OK {
			t.Fatal("P11: an image:", exit, why, at)
		}
		l, why := blocks.Back(f)
		if why != api.OK || !trees.Same(api.Ensemble{Trees: l}, api.Ensemble{Trees: want.Trees}) {
			t.Fatalf("P11: %v, %d, not %v", l, why, want.Trees)
		}
		m, _ := bins.Compile(e)
		back, why := bins.Back(m)
		if why != api.OK || !alikeButNoughts(api.Ensemble{Trees: back.Trees}, api.Ensemble{Trees: e.Trees}) {
			t.Fatalf("P11: of ranks %v, %d, not %v", back.Trees, why, e.Trees)
		}
		for range 50 {
			turned := []byte(out)
			turned[r.IntN(len(turned))] ^= byte(1 + r.IntN(255))
			if _, why, _ := image.Decode(turned); why == api.OK {
				t.Fatal("P11: a byte can be another")
			}
		}
	}
}

// Whether two are one function is decided, with a vector that tells them apart where they are not.
func TestDecided(t *testing.T) {
	r := source()
	count := map[string]int{}
	for range 300 {
		a := someEnsemble(r, r.IntN(4))
		b := trees.Copy(a)
		switch r.IntN(3) {
		case 0:
			b, _ = slim.Slim(a)
		case 1:
			b = someChanged(r, a)
		case 2:
			r.Shuffle(len(b.Trees), func(i, j int) { b.Trees[i], b.Trees[j] = b.Trees[j], b.Trees[i] })
		}
		same, x, why := cells.Equal(a, b)
		if why == api.ErrMany {
			continue
		}
		all(t, "P12", why)
		one, _ := trees.Score(a, x)
		other, _ := trees.Score(b, x)
		if !same && slices.Equal(one, other) {
			t.Fatal("P12: no vector that tells them apart:", x)
		}
		for range 50 {
			x := someVector(r, len(a.Features))
			one, _ := trees.Score(a, x)
			other, _ := trees.Score(b, x)
			if same && !slices.Equal(one, other) {
				t.Fatal("P12: told apart by", x)
			}
		}
		out, exit := run(words("equal"), written(a), written(b))
		if exit != 0 || (out == "equal\n") != same || !same && len(words(out)) != 1+len(a.Features) {
			t.Fatal("P12: equal writes", out)
		}
		if !same { // the vector that is written is one too
			l, why, _ := batch.Dense(strings.TrimPrefix(out, "differ "), len(a.Features))
			if all(t, "P12", why); !batch.Same(l, [][]float64{x}) {
				t.Fatal("P12: equal writes", out, "of", x)
			}
		}
		count[words(out)[0]]++
	}
	if count["equal"] < 30 || count["differ"] < 30 {
		t.Error("few of a kind:", count)
	}
}

// Shares add up to the score less the background's average; who is not asked has none.
func TestShares(t *testing.T) {
	r := source()
	for range 100 {
		e := someEnsemble(r, r.IntN(5))
		output := r.IntN(e.Outputs)
		x, back := someVector(r, len(e.Features)), someVectors(r, 1+r.IntN(4), len(e.Features))
		shares, why := explain.Shapley(e, output, x, back)
		all(t, "P13", why)
		sum := new(big.Rat)
		for i, share := range shares {
			s, _ := limbs.Write(share)
			q, _ := new(big.Rat).SetString(s)
			sum.Add(sum, q)
			if asked, _ := explain.Players(e); !slices.Contains(asked, i) && q.Sign() != 0 {
				t.Fatal("P13: who is not asked has a share")
			}
		}
		own, _ := trees.Score(e, x)
		want := new(big.Rat)
		for _, b := range back {
			l, _ := trees.Score(e, b)
			want.Add(want, new(big.Rat).SetInt64(own[output]-l[output]))
		}
		if want.Quo(want, big.NewRat(int64(len(back)), 1)); sum.Cmp(want) != 0 {
			t.Fatal("P13: shares add up to", sum, "not", want)
		}
	}
}

// What is learned never misses more behind a further tree: by what the front writes.
func TestLearning(t *testing.T) {
	r := source()
	for range 40 {
		args, file, d := someLesson(r)
		lost := slices.Contains(args, "--lost=yes")
		l, labels, _, _ := batch.Sparse(file, d, lost)
		var targets []int64
		for _, v := range labels {
			target, _ := fixed.Nearest(v)
			targets = append(targets, target)
		}
		var before []uint32
		for many := range 5 {
			args[2] = fmt.Sprint("--trees=", many)
			out, exit := run(args, file)
			if exit != 0 {
				t.Fatal(out)
			}
			loss, why := learn.Loss(parsed(t, out), l, targets)
			if all(t, "P14", why); many > 0 && limbs.Cmp(loss, before) > 0 {
				t.Fatal("P14: the loss rises:", limbs.Print(before), limbs.Print(loss))
			}
			before = loss
		}
	}
}

// What a version in a shop says never changes; a shop is made again by its journal.
func TestVersions(t *testing.T) {
	r := source()
	s := shop.New()
	var files []string
	for range 20 {
		e := someEnsemble(r, r.IntN(4))
		e.Features = []string{"a", "b", "c"}
		file := written(e)
		if n, why, _ := s.Put("m", file); why != api.OK || n != len(files)+1 {
			t.Fatal(n, why)
		}
		files = append(files, file)
		again, why, _ := shop.Replay(s.Journal())
		all(t, "P15", why)
		for i, file := range files {
			x := someVector(r, 3)
			want, _ := trees.Score(parsed(t, file), x)
			for _, k := range []*shop.Shop{s, again} {
				if why := k.Pin("m", i+1); why != api.OK {
					t.Fatal(why)
				}
				if sums, n, why := k.Score("m", "", x); why != api.OK || n != i+1 || !slices.Equal(sums, want) {
					t.Fatalf("P15: version %d says %v, not %v", n, sums, want)
				}
			}
		}
		s.Unpin("m")
	}
}

// The front's exit code is 0 just if arguments and files are right; else one line says where the first fault is.
func TestFrontWhole(t *testing.T) {
	r := source()
	for range 2000 {
		args, files := someRun(r)
		if r.IntN(2) == 0 {
			args, files = spoil(r, args, files)
		}
		out, exit := Run(args, files)
		isFault := strings.HasPrefix(string(out), "fault ") && bytes.Count(out, []byte("\n")) == 1 && out[len(out)-1] == '\n'
		if exit < 0 || exit > 3 || (exit != 0) != isFault {
			t.Fatalf("P16: %q: %q, exit %d", args, out, exit)
		}
		where := []string{"", "fault file ", "fault argument ", "fault code "}[exit]
		if !strings.HasPrefix(string(out), where) && string(out) != "fault files\n" {
			t.Fatalf("P16: exit %d with %q", exit, out)
		}
	}
}

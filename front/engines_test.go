package front

import (
	"fmt"
	"math/rand/v2"
	"slices"
	"strconv"
	"strings"
	"testing"

	"thicket/api"
	"thicket/batch"
	"thicket/text"
)

var engines = []string{"descent", "quick", "lanes", "code", "bins"}

// scoreArgs are all ways to score, in these blocks and with so many workers.
func scoreArgs(blocks, workers []int) [][]string {
	var l [][]string
	for _, engine := range engines {
		for _, b := range blocks {
			for _, w := range workers {
				l = append(l, []string{"score", "--engine=" + engine, "--block=" + strconv.Itoa(b), "--workers=" + strconv.Itoa(w)})
			}
		}
	}
	return l
}

func dense(l [][]float64) string {
	s, _ := batch.PrintDense(l)
	return s
}

// Every engine, in blocks of any size, with any number of workers, writes the same.
func TestEngines(t *testing.T) {
	r := source()
	for _, vectors := range []int{0, 1, 2, 7, 8, 9, 16, 17, 100, 600} {
		for _, trees := range []int{0, 1, 5, 40} {
			e := someEnsemble(r, trees)
			file := dense(someVectors(r, vectors, len(e.Features)))
			want, exit := run(words("score --engine=descent"), written(e), file)
			if exit != 0 || strings.Count(want, "\n") != vectors {
				t.Fatal("P30.8:", vectors, "vectors,", strings.Count(want, "\n"), "lines, exit", exit)
			}
			for _, args := range scoreArgs([]int{1, 16, api.MaxTrees}, []int{1, 2, 64}) {
				says(t, args, want, 0, written(e), file)
			}
		}
	}
}

// Every form of a batch says the same vectors.
func TestBatchForms(t *testing.T) {
	r := source()
	for range 50 {
		e := someEnsemble(r, 4)
		l := someVectors(r, 1+r.IntN(20), len(e.Features))
		csv, _ := batch.PrintCsv(e.Features, l)
		sparse, _ := batch.PrintSparse(l, make([]float64, len(l)), false)
		lost, _ := batch.PrintSparse(l, make([]float64, len(l)), true)
		for _, name := range []string{"score", "class", "reasons", "top --k=3"} {
			want, exit := run(words(name), written(e), dense(l))
			if exit != 0 {
				t.Fatal(want)
			}
			says(t, words(name+" --batch=csv"), want, 0, written(e), csv)
			says(t, words(name+" --batch=sparse"), want, 0, written(e), sparse)
			says(t, words(name+" --batch=sparse --lost=yes"), want, 0, written(e), lost)
		}
	}
}

// What is written of a dense batch is what is written of its lines, one by one; so it is of class and reasons.
func TestEachByItself(t *testing.T) {
	r := source()
	for range 40 {
		e := someEnsemble(r, r.IntN(6))
		file := "# vectors\n\n" + strings.ReplaceAll(dense(someVectors(r, r.IntN(30), len(e.Features))), "\n", pick(r, "\n", "\r\n", " # x\n", "\n\n"))
		for _, args := range append(scoreArgs([]int{1, 3}, []int{1, 5}), []string{"class"}, []string{"reasons"}) {
			whole, exit := run(args, written(e), file)
			parts := ""
			for line := range strings.Lines(file) {
				out, code := run(args, written(e), line)
				if code != 0 {
					t.Fatal("P30.6:", out)
				}
				parts += out
			}
			if exit != 0 || whole != parts {
				t.Fatalf("P30.6: %q: %q, not %q", args, whole, parts)
			}
		}
	}
}

// What dump writes is taken by check, and is what dump writes of it; so is what slim writes, whose scores are the model's.
func TestCanonical(t *testing.T) {
	r := source()
	for range 200 {
		e := someEnsemble(r, r.IntN(8))
		file := written(e)
		dump, exit := run(words("dump"), file)
		slim, code := run(words("slim"), file)
		if exit != 0 || code != 0 {
			t.Fatal(dump, slim)
		}
		for _, s := range []string{dump, slim} {
			says(t, words("check"), "ok\n", 0, s)
			says(t, words("dump"), s, 0, s)
		}
		says(t, words("slim"), slim, 0, slim)
		says(t, words("slim"), slim, 0, dump)
		l := dense(someVectors(r, 20, len(e.Features)))
		want, _ := run(words("score"), file, l)
		for _, s := range []string{dump, slim} {
			says(t, words("score --engine="+pick(r, engines...)), want, 0, s, l)
		}
		says(t, words("equal"), "equal\n", 0, file, dump)
		if out, exit := run(words("equal"), file, slim); out != "equal\n" && exit == 0 {
			t.Errorf("P30.9: slim: %q of %q", out, file)
		}
	}
}

// someLesson is labels with vectors, and how they are learned.
func someLesson(r *rand.Rand) ([]string, string, int) {
	d := 1 + r.IntN(3)
	l := someVectors(r, 1+r.IntN(20), d)
	labels := make([]float64, len(l))
	for i := range labels {
		labels[i] = float64(r.IntN(2000)-1000) / 64
	}
	lost := r.IntN(2) == 0
	file, _ := batch.PrintSparse(l, labels, lost)
	args := words(fmt.Sprintf("learn --columns=%d --trees=%d --deep=%d --least=%d --num=%d --den=%d", d, r.IntN(5), r.IntN(4), 1+r.IntN(3), 1+r.IntN(3), 3+r.IntN(3)))
	if lost {
		args = append(args, "--lost=yes")
	}
	return args, file, d
}

// What learn writes is taken by check, is canonical, and scores vectors.
func TestLearned(t *testing.T) {
	r := source()
	for range 100 {
		args, file, d := someLesson(r)
		out, exit := run(args, file)
		if exit != 0 {
			t.Fatal("P30.9:", args, out)
		}
		says(t, words("check"), "ok\n", 0, out)
		says(t, words("dump"), out, 0, out)
		if e, why, _ := text.Parse(out); why != api.OK || len(e.Features) != d || !rightOne(e) {
			t.Error("P30.9: learn writes", out)
		}
		l := dense(someVectors(r, 10, d))
		want, code := run(words("score --engine=descent"), out, l)
		if code != 0 {
			t.Error(want)
		}
		for _, engine := range engines {
			says(t, words("score --engine="+engine), want, 0, out, l)
		}
	}
}

// score's exit code is 0 just if the arguments are right and both files are taken; then it writes a line a vector, else one line that begins with fault.
func TestExitCodes(t *testing.T) {
	r := source()
	count := map[int]int{}
	for range 2000 {
		e := someEnsemble(r, r.IntN(4))
		args := pick(r, scoreArgs([]int{1, 2}, []int{1, 3})...)
		args = append(slices.Clone(args), "--batch=dense")
		files := [][]byte{[]byte(written(e)), []byte(dense(someVectors(r, r.IntN(5), len(e.Features))))}
		if r.IntN(2) == 0 {
			args, files = spoil(r, args, files)
		}
		out, exit := Run(args, files)
		count[exit]++
		if len(args) > 0 && args[0] != "score" {
			continue
		}
		code, lines := 2, 1
		if len(files) == 2 && !slices.ContainsFunc(args[1:], func(s string) bool { return !isScoreOption(s) }) && areOnce(args[1:]) {
			code = 1
			if m, why, _ := text.Parse(string(files[0])); why == api.OK {
				if l, lacks, _ := batch.Dense(string(files[1]), len(m.Features)); lacks == api.OK {
					code, lines = 0, len(l)
				}
			}
		}
		if slices.Contains(args, "--format=dump") || slices.Contains(args, "--batch=csv") || slices.Contains(args, "--batch=sparse") {
			continue
		}
		if exit != code || strings.Count(string(out), "\n") != lines || strings.HasPrefix(string(out), "fault ") == (exit == 0) {
			t.Fatalf("P30.8: %q of %q: %q, exit %d, not %d with %d lines", args, files, out, exit, code, lines)
		}
	}
	if count[0] < 500 || count[1] < 100 || count[2] < 100 || count[3] != 0 {
		t.Error("P30.8: exits:", count)
	}
}

// isScoreOption tells whether an argument is an option of score.
func isScoreOption(s string) bool {
	m := anOption.FindStringSubmatch(s)
	return m != nil && slices.Contains(optionsOf("score"), m[1]) && mayBe()[m[1]](m[2])
}

// areOnce tells whether no two options have one name.
func areOnce(args []string) bool {
	var names []string
	for _, s := range args {
		names = append(names, anOption.FindStringSubmatch(s)[1])
	}
	slices.Sort(names)
	return len(slices.Compact(names)) == len(args)
}

package front

import (
	"fmt"
	"math"
	"slices"
	"strconv"
	"strings"
	"testing"

	"thicket/api"
	"thicket/floats"
	"thicket/image"
)

// with is small with another piece in the place of one of its own.
func with(old, anew string) string { return strings.Replace(small, old, anew, 1) }

// two has two outputs: trees of one leaf each, and one of three.
const two = "thicket 1\nname two\noutputs 2\nbase 0 1\nfeatures 2\nfeature a\nfeature b\ntrees 2\ntree 0 5\nsplit a <= 1 to 1 4 missing right\nsplit b in 3 5 to 2 3 missing left\nleaf 0.5\nleaf -0.5\nleaf 4\ntree 1 1\nleaf -0.75\nend\n"

func TestCheckAndDump(t *testing.T) {
	turned := strings.Replace(with("to 1 2", "to 2 1"), "leaf 1\nleaf -2.25\n", "leaf -2.25\n# the other one\n\nleaf 1\n", 1)
	for _, file := range []string{small, two, turned, "\n# x\n" + strings.ReplaceAll(small, "\n", "\r\n"), strings.TrimSuffix(small, "\n")} {
		says(t, words("check"), "ok\n", 0, file)
	}
	says(t, words("dump"), small, 0, small)
	says(t, words("dump"), two, 0, two)
	says(t, words("dump"), small, 0, turned)
	says(t, words("dump --format=dump --features=a,b"), "thicket 1\nname dump\noutputs 1\nbase 0\nfeatures 2\nfeature a\nfeature b\ntrees 1\ntree 0 1\nleaf 1\nend\n", 0, dumped)
}

func TestSlim(t *testing.T) {
	says(t, words("slim"), small, 0, small)
	says(t, words("slim"), strings.Replace(treesOf(), "base 0.5", "base 1.5", 1), 0, with("leaf -2.25", "leaf 1"))
	want := strings.Replace(strings.Replace(two, "base 0 1", "base 0 0.25", 1), "trees 2", "trees 1", 1)
	says(t, words("slim"), strings.Replace(want, "tree 1 1\nleaf -0.75\n", "", 1), 0, two)
}

func TestCode(t *testing.T) {
	says(t, words("code"), "code 2 1\nadd 0 0.5\ntest 0 <= 0.5 missing left else 4\nadd 0 1\njump 5\nadd 0 -2.25\nend\n", 0, small)
	says(t, words("code --tidy=yes"), "code 2 1\nadd 0 0.5\ntest 0 <= 0.5 missing left else 4\nadd 0 1\njump 5\nadd 0 -2.25\nend\n", 0, small)
	nought := with("base 0.5", "base 0")
	says(t, words("code --tidy=no"), "code 2 1\nadd 0 0\ntest 0 <= 0.5 missing left else 4\nadd 0 1\njump 5\nadd 0 -2.25\nend\n", 0, nought)
	says(t, words("code --tidy=yes"), "code 2 1\ntest 0 <= 0.5 missing left else 3\nadd 0 1\njump 4\nadd 0 -2.25\nend\n", 0, nought)
}

func TestImage(t *testing.T) {
	bare := "thicket 1\nname m\noutputs 1\nbase 0\nfeatures 1\nfeature a\ntrees 0\nend\n"
	want := []byte{0x54, 0x48, 0x4b, 0x31, 1, 1, 0, 0}
	sum := image.Sum(want)
	for i := range 8 {
		want = append(want, byte(sum>>(56-8*i)))
	}
	says(t, words("image"), string(want), 0, bare)
	// The blocks hang on the option: 16 trees without it.
	many := strings.Replace(small, "trees 1\n", "trees 33\n", 1)
	many = strings.Replace(many, "end\n", strings.Repeat(small[strings.Index(small, "tree 0"):strings.Index(small, "end\n")], 32)+"end\n", 1)
	for option, blocks := range map[string]int{"": 3, " --block=16": 3, " --block=1": 33, " --block=32": 2, " --block=33": 1, " --block=65536": 1} {
		out, exit := run(words("image"+option), many)
		f, why, _ := image.Decode([]byte(out))
		if exit != 0 || why != api.OK || len(f.Blocks) != blocks {
			t.Errorf("P30.3: image%s: exit %d, error %d, %d blocks, not %d", option, exit, why, len(f.Blocks), blocks)
		}
	}
}

func TestScore(t *testing.T) {
	says(t, words("score"), "", 0, small, "")
	says(t, words("score"), "", 0, small, "# nothing\n\n")
	says(t, words("score"), "1.5\n-1.75\n1.5\n-1.75\n", 0, small, "0 0\n1 0\nnan 7\ninf -0\n")
	says(t, words("score"), "0.5 0.25\n-0.5 0.25\n0.5 0.25\n4 0.25\n4 0.25\n", 0, two, "1 3\n1 4\n1 nan\nnan 3\n2 5")
	says(t, words("score --batch=csv"), "0.5 0.25\n4 0.25\n", 0, two, "b,x,a\n3,?,1\n3,,\n")
	says(t, words("score --batch=sparse"), "-0.5 0.25\n0.5 0.25\n", 0, two, "7 1:1\nnan 1:-1 2:5\n")
	says(t, words("score --batch=sparse --lost=yes"), "0.5 0.25\n4 0.25\n", 0, two, "7 1:1\n0\n")
	says(t, words("score --lost=yes"), "0.5 0.25\n", 0, two, "1 3\n") // says something of sparse batches alone
	says(t, words("score --format=dump --features=x,y --outputs=2"), "1 0\n", 0, dumped, "0 0")
}

func TestClass(t *testing.T) {
	says(t, words("class"), "0 0\n", 0, small, "0 0")
	says(t, words("class"), "", 0, small, "")
	says(t, words("class"), "0 1\n1 1\n0 1\n", 0, two, "1 3\n1 4\nnan 3\n")
	says(t, words("class --batch=sparse"), "1 1\n", 0, two, "5 1:1")
}

func TestReasons(t *testing.T) {
	says(t, words("reasons"), "a <= 0.5 : output 0 +1\n\n", 0, small, "0 0")
	says(t, words("reasons"), "", 0, small, "")
	says(t, words("reasons --batch=csv"), "a <= 1 and b not in 3,5 : output 0 -0.5\n: output 1 -0.75\n\na is missing : output 0 +4\n: output 1 -0.75\n\na <= 1 and b is missing : output 0 +0.5\n: output 1 -0.75\n\n", 0, two, "a,b\n1,4\n,3\n0,nan\n")
	none := strings.Replace(two, two[strings.Index(two, "trees 2"):], "trees 0\nend\n", 1)
	says(t, words("reasons"), "\n\n", 0, none, "1 2\n3 4\n") // no trees, no reasons
}

func TestTop(t *testing.T) {
	const l = "1 4\n1 3\n5 5\n1 5\n7 7\n" // -0.5, 0.5, 4, 0.5, 4
	for k, want := range map[string]string{"0": "", "1": "2", "2": "2 4", "3": "2 4 1", "4": "2 4 1 3", "5": "2 4 1 3 0", "6": "2 4 1 3 0", "999999999": "2 4 1 3 0"} {
		says(t, words("top --k="+k), want+"\n", 0, two, l)
		says(t, words("top --output=0 --k="+k), want+"\n", 0, two, l)
		says(t, words("top --output=2 --k="+k), "fault code 2\n", 3, two, l)
	}
	says(t, words("top --output=1 --k=3"), "0 1 2\n", 0, two, l)
	says(t, words("top"), "2\n", 0, two, l)
	says(t, words("top"), "\n", 0, two, "")
	says(t, words("top --k=5"), "\n", 0, two, "")
	says(t, words("top --output=2"), "fault code 2\n", 3, two, "")
	says(t, words("top --output=999999999"), "fault code 2\n", 3, two, l)
}

func TestRank(t *testing.T) {
	says(t, words("rank"), "auc 1\naverage 1\n", 0, small, "1 1:0\n0 1:1\n")
	says(t, words("rank"), "auc 0\naverage 1/2\n", 0, small, "0 1:0\n1 1:1\n")
	says(t, words("rank"), "auc 3/8\naverage 3/4\n", 0, two, "1 1:5\n0 1:7\n0 2:3\n1 2:4\n")
	// A vector is hit, if its label is above 0.
	says(t, words("rank"), "auc 1\naverage 1\n", 0, small, "1e-300 1:0\n-0 1:1\n")
	says(t, words("rank"), "auc 1\naverage 1\n", 0, small, "inf 1:0\nnan 1:1\n-inf 1:2\n-1 1:3\n")
	for _, output := range []string{"0", "1"} {
		says(t, words("rank --output="+output), "fault code 270\n", 3, two, "")                 // no vector
		says(t, words("rank --output="+output), "fault code 270\n", 3, two, "0\n-1\nnan\n-0\n") // none is hit
		says(t, words("rank --output="+output), "fault code 270\n", 3, two, "1\n2\n")           // each is
	}
	says(t, words("rank --output=1"), "auc 1/2\naverage 1\n", 0, two, "1 1:5\n0 1:7\n")
	says(t, words("rank --output=1"), "auc 1/2\naverage 1/2\n", 0, two, "0 1:5\n1 1:7\n")
	for _, file := range []string{"", "0\n", "1\n", "1\n0\n"} { // ahead of the classes
		says(t, words("rank --output=2"), "fault code 2\n", 3, two, file)
		says(t, words("rank --output=999999999"), "fault code 2\n", 3, two, file)
	}
	// What is not told is 0, or lost.
	says(t, words("rank"), "auc 0\naverage 1/2\n", 0, two, "1\n0 1:2\n")
	says(t, words("rank --lost=yes"), "auc 1/2\naverage 1\n", 0, two, "1\n0 1:2\n")
}

func TestEqual(t *testing.T) {
	says(t, words("equal"), "equal\n", 0, small, small)
	says(t, words("equal"), "equal\n", 0, small, with("name m", "name other")) // names are no function's
	says(t, words("equal"), "equal\n", 0, small, with("feature b", "feature z"))
	says(t, words("equal"), "differ 0.5000000000000001 0\n", 0, small, with("<= 0.5", "<= 0.5000000000000001"))
	says(t, words("equal"), "differ nan 0\n", 0, small, with("missing left", "missing right"))
	says(t, words("equal"), "differ -inf 0\n", 0, small, with("leaf 1", "leaf 1.000001"))
	says(t, words("equal"), "fault code 6\n", 3, small, two)
	says(t, words("equal"), "fault code 6\n", 3, small, strings.Replace(with("features 2", "features 1"), "feature b\n", "", 1))
	says(t, words("equal --format=dump --features=a"), "equal\n", 0, dumped, dumped)
	says(t, words("equal --format=dump --features=a,b,c"), "differ 0 0 0\n", 0, dumped, "[]")
	// Two marks have six points: 6^6 cells are few enough, 6^7 are not.
	for _, features := range []int{6, 7} {
		s := "thicket 1\nname m\noutputs 1\nbase 0\nfeatures " + strconv.Itoa(features) + "\n"
		for i := range features {
			s += "feature f" + strconv.Itoa(i) + "\n"
		}
		s += "trees " + strconv.Itoa(features) + "\n"
		for i := range features {
			s += fmt.Sprintf("tree 0 5\nsplit f%d <= 1 to 1 2 missing left\nleaf 1\nsplit f%d <= 2 to 3 4 missing left\nleaf 2\nleaf 3\n", i, i)
		}
		s += "end\n"
		if features == 6 {
			says(t, words("equal"), "equal\n", 0, s, s)
		} else {
			says(t, words("equal"), "fault code 3\n", 3, s, s)
		}
	}
}

// treesOf is small with such leaves as its trees, each with a name of its own.
func treesOf(leaves ...string) string {
	s := "trees " + strconv.Itoa(len(leaves)) + "\n"
	for _, v := range leaves {
		s += "tree 0 1\nleaf " + v + "\n"
	}
	return small[:strings.Index(small, "trees")] + s + "end\n"
}

func TestMerge(t *testing.T) {
	says(t, words("merge"), small, 0, small, small, small)
	says(t, words("merge"), treesOf("1", "9", "2", "8"), 0, treesOf("1", "2"), treesOf("1", "9", "2"), treesOf("1", "2", "8"))
	says(t, words("merge"), treesOf(), 0, treesOf("1", "2"), treesOf("2"), treesOf("1"))
	says(t, words("merge"), treesOf("9", "1"), 0, treesOf("1"), treesOf("9", "1"), treesOf("9", "1"))
	says(t, words("merge"), strings.Replace(with("name m", "name n"), "base 0.5", "base 7", 1), 0, small, with("name m", "name n"), with("base 0.5", "base 7"))
	// Trees stand as they are written: another numbering is another tree.
	turned := strings.Replace(with("to 1 2", "to 2 1"), "leaf 1\nleaf -2.25\n", "leaf -2.25\nleaf 1\n", 1)
	says(t, words("merge"), small, 0, small, turned, small)
	says(t, words("merge"), "fault code 281 at 1\n", 3, small, turned, with("leaf 1", "leaf 2"))

	// The head: name, features, outputs, base.
	for _, c := range [][2]string{
		{with("name m", "name n"), with("name m", "name o")},
		{with("feature b", "feature c"), with("feature b", "feature d")},
		{with("base 0.5", "base 0.6"), with("base 0.5", "base 0.7")},
		{with("outputs 1\nbase 0.5", "outputs 2\nbase 0.5 0"), with("outputs 1\nbase 0.5", "outputs 3\nbase 0.5 0 0")},
		{with("name m", "name n"), strings.Replace(with("name m", "name o"), "leaf 1", "leaf 2", 1)},
	} {
		says(t, words("merge"), "fault code 281 at -1\n", 3, small, c[0], c[1])
		says(t, words("merge"), "fault code 281 at -1\n", 3, small, c[1], c[0])
		says(t, words("merge"), c[0], 0, c[0], c[0], c[0])
	}
	// Trees that both add at one place.
	old := []string{"1", "2", "3"}
	for g := range 4 {
		a, b := slices.Insert(slices.Clone(old), g, "8"), slices.Insert(slices.Clone(old), g, "9")
		says(t, words("merge"), "fault code 281 at "+strconv.Itoa(g)+"\n", 3, treesOf(old...), treesOf(a...), treesOf(b...))
		says(t, words("merge"), treesOf(a...), 0, treesOf(old...), treesOf(a...), treesOf(a...))
	}
	// Too many trees; and what comes of it breaks a rule.
	many := treesOf(slices.Repeat([]string{"1"}, api.MaxDiff+1)...)
	most := treesOf(slices.Repeat([]string{"1"}, api.MaxDiff)...)
	says(t, words("merge"), "fault code 3 at 0\n", 3, small, small, many)
	says(t, words("merge"), "fault code 3 at 0\n", 3, many, with("name m", "name n"), with("name m", "name o")) // ahead of the clash
	says(t, words("merge"), most, 0, most, most, most)
	says(t, words("merge"), "fault code 5 at 0\n", 3, treesOf("1"), treesOf("4000000000000", "1"), treesOf("1", "4000000000000"))
}

func TestLearn(t *testing.T) {
	head := "thicket 1\nname learned\noutputs 1\nbase 0.5\nfeatures 1\nfeature f0\n"
	stump := "tree 0 3\nsplit f0 <= 1 to 1 2 missing left\nleaf -0.5\nleaf 0.5\n"
	nought := "tree 0 1\nleaf 0\n"
	says(t, words("learn --trees=0"), head+"trees 0\nend\n", 0, "0 1:1\n1 1:2\n")
	says(t, words("learn --trees=1 --deep=0"), head+"trees 1\n"+nought+"end\n", 0, "0 1:1\n1 1:2\n")
	says(t, words("learn"), head+"trees 10\n"+stump+strings.Repeat(nought, 9)+"end\n", 0, "0 1:1\n1 1:2\n")
	says(t, words("learn --trees=1 --least=2"), head+"trees 1\n"+nought+"end\n", 0, "0 1:1\n1 1:2\n")
	says(t, words("learn --trees=1 --num=1 --den=2"), head+"trees 1\n"+strings.ReplaceAll(stump, "0.5\n", "0.25\n")+"end\n", 0, "0 1:1\n1 1:2\n")
	says(t, words("learn --trees=1 --lost=yes"), head+"trees 1\n"+strings.Replace(strings.Replace(stump, "<= 1", "<= 2", 1), "missing left\nleaf -0.5\nleaf 0.5", "missing right\nleaf 0.5\nleaf -0.5", 1)+"end\n", 0, "0\n1 1:2\n")
	says(t, words("learn --trees=0 --columns=3"), strings.Replace(head, "features 1\nfeature f0\n", "features 3\nfeature f0\nfeature f1\nfeature f2\n", 1)+"trees 0\nend\n", 0, "0 1:1\n1 3:2\n")
	// Labels are rounded to fixed numbers.
	says(t, words("learn --trees=0"), strings.Replace(head, "0.5", "0.1", 1)+"trees 0\nend\n", 0, "0.1\n0.10000000000000000001\n")
	says(t, words("learn --trees=0"), strings.Replace(head, "0.5", "0", 1)+"trees 0\nend\n", 0, "-0\n1e-300\n")

	for file, why := range map[string]api.Errno{
		"":                                   api.ErrSize, // no vector
		"# none\n":                           api.ErrSize,
		"nan 1:1":                            api.ErrNaN,
		"inf":                                api.ErrBig,
		"-inf":                               api.ErrBig,
		"1e13":                               api.ErrBig,
		"1\n0\nnan\ninf":                     api.ErrNaN, // the first label at fault
		"1\n0\ninf\nnan":                     api.ErrBig,
		"1099511.627777":                     api.ErrRange, // 2^40 and one
		"-1099511.627777":                    api.ErrRange,
		"1099511.627777\nnan":                api.ErrNaN, // all labels come ahead of learning
		strings.Repeat("0\n", api.MaxRows+1): api.ErrSize,
		strings.Repeat("0\n", api.MaxRows+1) + "nan": api.ErrNaN,
	} {
		says(t, words("learn --trees=0"), fmt.Sprintf("fault code %d\n", why), 3, file)
	}
	says(t, words("learn --trees=0"), strings.Replace(head, "0.5", "1099511.627776", 1)+"trees 0\nend\n", 0, "1099511.627776")
	says(t, words("learn --trees=0"), strings.Replace(head, "0.5", "0", 1)+"trees 0\nend\n", 0, strings.Repeat("0\n", api.MaxRows))
	says(t, words("learn --num=2"), "fault code 260\n", 3, "0 1:1\n")
	says(t, words("learn --num=2 --den=1"), "fault code 260\n", 3, "0 1:1\n")
	says(t, words("learn --num=1048576 --den=1048575"), "fault code 260\n", 3, "0 1:1\n")
	says(t, words("learn --num=2"), "fault code 6\n", 3, "") // rows come ahead of the plan
	says(t, words("learn --trees=0 --num=1048576 --den=1048576"), strings.Replace(head, "0.5", "0", 1)+"trees 0\nend\n", 0, "0 1:1\n")
	if out, exit := run(words("learn --trees=1000 --deep=12 --least=65536 --den=1048576"), "0 1:1\n1 1:2\n"); exit != 0 || out != head+"trees 1000\n"+strings.Repeat(nought, 1000)+"end\n" {
		t.Errorf("P30.3: learn at its limits: %.200q, %d", out, exit)
	}
}

// floats.Shortest writes the vector that tells two models apart, whatever its numbers.
func TestDiffer(t *testing.T) {
	for _, v := range []float64{math.MaxFloat64, 5e-324, -5e-324, 1e21, -1e-7, 0} {
		near := with("<= 0.5", "<= "+floats.Shortest(math.Nextafter(v, math.Inf(-1))))
		says(t, words("equal"), "differ "+floats.Shortest(v)+" 0\n", 0, with("<= 0.5", "<= "+floats.Shortest(v)), near)
	}
}

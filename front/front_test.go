package front

import (
	"slices"
	"strconv"
	"strings"
	"testing"

	"thicket/api"
)

// small is chapter 9's text.
const small = "thicket 1\nname m\noutputs 1\nbase 0.5\nfeatures 2\nfeature a\nfeature b\ntrees 1\ntree 0 3\nsplit a <= 0.5 to 1 2 missing left\nleaf 1\nleaf -2.25\nend\n"

// dumped is a dump of one leaf.
const dumped = `[{"nodeid":0,"leaf":1}]`

func words(s string) []string { return strings.Fields(s) }

func run(args []string, files ...string) (string, int) {
	var l [][]byte
	for _, f := range files {
		l = append(l, []byte(f))
	}
	out, exit := Run(args, l)
	return string(out), exit
}

// says tells whether a run writes and answers just this.
func says(t *testing.T, args []string, want string, exit int, files ...string) {
	t.Helper()
	if out, code := run(args, files...); out != want || code != exit {
		t.Errorf("P30: %.200q of %.100q: %.300q, exit %d, not %.300q, exit %d", args, files, out, code, want, exit)
	}
}

func noArgument(t *testing.T, i int, args []string, files ...string) {
	t.Helper()
	says(t, args, "fault argument "+strconv.Itoa(i)+"\n", 2, files...)
}

func TestExamples(t *testing.T) {
	says(t, words("check"), "ok\n", 0, small)
	says(t, nil, "fault argument 0\n", 2)
	says(t, words("fly"), "fault argument 0\n", 2)
	says(t, words("check --format=text --format=text"), "fault argument 2\n", 2, small)
	says(t, words("check --block=1"), "fault argument 1\n", 2, small)
	says(t, words("check"), "fault files\n", 2)

	says(t, words("score"), "1.5\n-1.75\n", 0, small, "0 0\n1 nan\n")
	says(t, words("score --engine=bins --workers=7"), "1.5\n-1.75\n", 0, small, "0 0\n1 nan\n")
	says(t, words("score --workers=65"), "fault argument 1\n", 2, small, "0 0\n1 nan\n")

	says(t, words("score"), "fault file 1 code 191 line 1 rule 2\n", 1, small, "0\n")
	says(t, words("dump"), "fault file 0 code 191 line 1 rule 2\n", 1, "x")

	says(t, words("check --format=dump --features=a,b"), "ok\n", 0, dumped)
	says(t, words("check --format=dump --features=a"), "fault file 0 code 120 place [0]\n", 1, "[1]")

	says(t, words("top --output=1"), "fault code 2\n", 3, small, "0 0")
	says(t, words("equal"), "equal\n", 0, small, small)
	says(t, words("learn --trees=1 --deep=1"), "thicket 1\nname learned\noutputs 1\nbase 0.5\nfeatures 1\nfeature f0\ntrees 1\ntree 0 3\nsplit f0 <= 1 to 1 2 missing left\nleaf -0.5\nleaf 0.5\nend\n", 0, "0 1:1\n1 1:2\n")
}

// taken is a command as the chapter's table has it: files that it takes, and the names of its options.
type taken struct {
	files   []string
	options string
}

func allCommands() map[string]taken {
	const model = "format features outputs "
	return map[string]taken{
		"check":   {[]string{small}, model},
		"dump":    {[]string{small}, model},
		"slim":    {[]string{small}, model},
		"code":    {[]string{small}, model + "tidy"},
		"image":   {[]string{small}, model + "block"},
		"score":   {[]string{small, "0 0\n"}, model + "batch lost engine block workers"},
		"class":   {[]string{small, "0 0\n"}, model + "batch lost"},
		"reasons": {[]string{small, "0 0\n"}, model + "batch lost"},
		"top":     {[]string{small, "0 0\n"}, model + "batch lost output k"},
		"rank":    {[]string{small, "1 1:1\n0 2:1\n"}, model + "lost output"},
		"equal":   {[]string{small, small}, model},
		"merge":   {[]string{small, small, small}, model},
		"learn":   {[]string{"1 1:1\n"}, "lost columns trees deep least num den"},
	}
}

// values are such as an option may have, the one that holds without it first, and such as it can't have. (Those that are told here have their command answer 0 with its files in allCommands.)
type values struct{ plain, right, wrong string }

const noCounts = " 00 01 +1 -1 -0 1.0 1e0 0x1 one 1_0 1000000000 0000000001 99999999999999999999 ١ 1, yes"

func allOptions() map[string]values {
	return map[string]values{
		"format":   {"text", "text", "dumps Text TEXT json tex text,dump 0"},
		"features": {"", "a a,b , ,, = a=b --format=dump é \xff text", ""},
		"outputs":  {"1", "2 10 63 64", "0 65 100" + noCounts},
		"tidy":     {"no", "yes no", "Yes NO y true 1 0 yesno"},
		"lost":     {"no", "yes no", "Yes NO y true 1 0 no,yes"},
		"block":    {"16", "1 2 65535 65536", "0 65537 100000" + noCounts},
		"batch":    {"dense", "dense", "Dense svm libsvm dense,csv 0"},
		"engine":   {"quick", "descent quick lanes code bins", "Quick image slim none quick,lanes 0"},
		"workers":  {"1", "2 8 63 64", "0 65 100" + noCounts},
		"output":   {"0", "0", "-0" + noCounts},
		"k":        {"1", "0 2 10 999999999", "-0" + noCounts},
		"columns":  {"1", "2 100 65535 65536", "0 65537 100000" + noCounts},
		"trees":    {"10", "0 1 5 999 1000", "1001 2000" + noCounts},
		"deep":     {"3", "0 1 11 12", "13 100" + noCounts},
		"least":    {"1", "2 65535 65536", "0 65537 100000" + noCounts},
		"num":      {"1", "1", "0 1048577 2000000" + noCounts},
		"den":      {"1", "2 10 1048575 1048576", "0 1048577 2000000" + noCounts},
	}
}

func optionsOf(command string) []string { return words(allCommands()[command].options) }

func TestNoCommand(t *testing.T) {
	for _, first := range []string{"", "fly", "Check", "CHECK", "check ", " check", "chec", "checks", "--format=text", "--check", "help", "-h", "\x00", "\xff", "check\n", "check,dump", "check=1"} {
		noArgument(t, 0, []string{first}, small)
		noArgument(t, 0, []string{first, "check"}, small)
		noArgument(t, 0, []string{first, "--nothing=1"})
	}
	noArgument(t, 0, nil, small)
	noArgument(t, 0, []string{}, small, small)
	for name, c := range allCommands() {
		if out, exit := run([]string{name}, c.files...); exit != 0 {
			t.Errorf("P30: %s: %q, %d", name, out, exit)
		}
		noArgument(t, 1, []string{name, name}, c.files...)
	}
}

// Each option of each command is taken with each value that it may have, and with none that it can't have; no other option is.
func TestOptions(t *testing.T) {
	for name, c := range allCommands() {
		plain, _ := run([]string{name}, c.files...)
		for option, v := range allOptions() {
			if !slices.Contains(optionsOf(name), option) {
				for _, value := range append(words(v.right), v.plain, "", "no such value") {
					noArgument(t, 1, []string{name, "--" + option + "=" + value}, c.files...)
				}
				continue
			}
			for _, value := range append(words(v.right), v.plain) {
				if out, exit := run([]string{name, "--" + option + "=" + value}, c.files...); exit != 0 {
					t.Errorf("P30.1: %s --%s=%s: %q, %d", name, option, value, out, exit)
				}
			}
			says(t, []string{name, "--" + option + "=" + v.plain}, plain, 0, c.files...) // what holds without it
			wrong := words(v.wrong)
			if option != "features" {
				wrong = append(wrong, "", " ", v.plain+" ", " "+v.plain, v.plain+"\n", "="+v.plain, v.plain+"=", v.plain+"\x00")
			}
			for _, value := range wrong {
				noArgument(t, 1, []string{name, "--" + option + "=" + value}, c.files...)
			}
		}
		for _, option := range []string{"", " ", "Format", "FORMAT", "form", "formats", "format ", " format", "-format", "--format", "name", "help", "é", "\xff", "file"} {
			noArgument(t, 1, []string{name, "--" + option + "=text"}, c.files...)
		}
	}
}

// What has another form is no option.
func TestForms(t *testing.T) {
	for _, arg := range []string{"", "-", "--", "---", "=", "--=", "--format", "format=text", "-format=text", "format", "text", "--format:text", "--format text", "—format=text", "--=format=text", "=--format=text", " --format=text", "/format=text", small, "-"} {
		noArgument(t, 1, []string{"check", arg}, small)
		noArgument(t, 2, []string{"check", "--format=text", arg}, small)
	}
	noArgument(t, 1, []string{"check", "--format==text"}, small) // the value is =text
	says(t, []string{"check", "--features==a==b=="}, "ok\n", 0, small)
}

// No option stands twice, whatever it says there.
func TestTwice(t *testing.T) {
	for name, c := range allCommands() {
		for _, option := range optionsOf(name) {
			arg := "--" + option + "=" + allOptions()[option].plain
			noArgument(t, 2, []string{name, arg, arg}, c.files...)
			noArgument(t, 2, []string{name, arg, "--" + option + "=" + words(allOptions()[option].right)[0]}, c.files...)
			noArgument(t, 2, []string{name, arg, "--" + option + "=wrong"}, c.files...)
			for _, other := range optionsOf(name) {
				if other != option {
					noArgument(t, 3, []string{name, arg, "--" + other + "=" + allOptions()[other].plain, arg}, c.files...)
				}
			}
		}
	}
}

// All options of a command, in any order, each once.
func TestAllOptions(t *testing.T) {
	for name, c := range allCommands() {
		plain, _ := run([]string{name}, c.files...)
		args := []string{name}
		for _, option := range optionsOf(name) {
			args = append(args, "--"+option+"="+allOptions()[option].plain)
		}
		says(t, args, plain, 0, c.files...)
		slices.Reverse(args[1:])
		says(t, args, plain, 0, c.files...)
		noArgument(t, len(args), append(slices.Clone(args), "more"), c.files...)
	}
}

// Of several wrong arguments the first one counts.
func TestFirstArgument(t *testing.T) {
	noArgument(t, 0, words("fly --format=x x"))
	noArgument(t, 1, words("check x --format=x"), small)
	noArgument(t, 1, words("check --format=x x --format=x"), small)
	noArgument(t, 2, words("score --workers=64 --engine=slow --block=0"), small, "0 0")
	noArgument(t, 3, words("score --workers=64 --block=1 --block=0 --engine=slow"), small, "0 0")
	args := words("score")
	for i := range 20 {
		args = append(args, "--features="+strconv.Itoa(i))
	}
	noArgument(t, 2, args, small, "0 0")
}

func TestNumberOfFiles(t *testing.T) {
	for name, c := range allCommands() {
		for n := range 6 {
			files := slices.Repeat([]string{small}, n)
			if n == len(c.files) {
				continue
			}
			says(t, []string{name}, "fault files\n", 2, files...)
			noArgument(t, 1, []string{name, "--format=fly"}, files...) // ahead of the files
			noArgument(t, 1, []string{name, ""}, files...)
			says(t, []string{name}, "fault files\n", 2, slices.Repeat([]string{"x"}, n)...) // and that ahead of what is in them
		}
	}
	for _, files := range [][][]byte{nil, {}, {nil, nil}, {[]byte(small), nil}} {
		if out, exit := Run(words("check"), files); string(out) != "fault files\n" || exit != 2 {
			t.Errorf("P30.1: %q: %q, %d", files, out, exit)
		}
	}
}

// A file that is nil is an empty one.
func TestEmptyFiles(t *testing.T) {
	for _, empty := range [][]byte{nil, {}, []byte(small)[:0]} {
		if out, exit := Run(words("check"), [][]byte{empty}); string(out) != "fault file 0 code 191 line 1 rule 2\n" || exit != 1 {
			t.Errorf("P30.2: an empty model: %q, %d", out, exit)
		}
		if out, exit := Run(words("score"), [][]byte{[]byte(small), empty}); len(out) != 0 || exit != 0 {
			t.Errorf("P30.2: an empty batch: %q, %d", out, exit)
		}
		if out, exit := Run(words("score --batch=csv"), [][]byte{[]byte(small), empty}); string(out) != "fault file 1 code 191 line 1 rule 2\n" || exit != 1 {
			t.Errorf("P30.2: an empty CSV: %q, %d", out, exit)
		}
		if out, exit := Run(words("check --format=dump --features=a"), [][]byte{empty}); string(out) != "fault file 0 code 100 place at 0\n" || exit != 1 {
			t.Errorf("P30.2: an empty dump: %q, %d", out, exit)
		}
		if out, exit := Run(words("learn"), [][]byte{empty}); string(out) != "fault code 6\n" || exit != 3 {
			t.Errorf("P30.3: nothing to learn from: %q, %d", out, exit)
		}
	}
}

func TestModelsAtFault(t *testing.T) {
	for _, c := range []struct {
		file       string
		line, rule int
	}{
		{"", 1, 2},
		{"# x\n\n", 3, 2},
		{"\xff", 1, 1},
		{"thicket 2", 1, 8},
		{strings.Replace(small, "name m", "name", 1), 2, 3},
		{strings.Replace(small, "outputs 1", "outputs 01", 1), 3, 4},
		{strings.Replace(small, "base 0.5", "base 0.1234567", 1), 4, 5},
		{strings.Replace(small, "base 0.5", "base 4611686018427.387904", 1), 4, 13},
		{strings.Replace(small, "feature b", "feature a", 1), 7, 10},
		{strings.Replace(small, "<= 0.5", "<= nan", 1), 10, 6},
		{strings.Replace(small, "to 1 2", "to 1 1", 1), 12, 12},
		{strings.Replace(small, "end\n", "", 1), 13, 2},
		{small + "more", 14, 2},
		{dumped, 1, 2},
	} {
		want := " code 191 line " + strconv.Itoa(c.line) + " rule " + strconv.Itoa(c.rule) + "\n"
		for name, k := range allCommands() {
			if name == "learn" {
				continue
			}
			for i, right := range k.files {
				if right != small {
					continue
				}
				files := slices.Clone(k.files)
				files[i] = c.file
				says(t, []string{name}, "fault file "+strconv.Itoa(i)+want, 1, files...)
				for j := i + 1; j < len(files); j++ { // the first file at fault
					files[j] = "wrong too"
				}
				says(t, []string{name, "--features=a"}, "fault file "+strconv.Itoa(i)+want, 1, files...)
			}
		}
	}
}

func TestDumpsAtFault(t *testing.T) {
	const inner = `[{"nodeid":0,"split":"b","split_condition":0.5,"yes":2,"no":1,"missing":1,"children":[{"nodeid":1,"leaf":0.25},{"nodeid":2,"leaf":-1}]}]`
	for _, c := range []struct{ file, fault string }{
		{"", "100 place at 0"},
		{"[", "100 place at 1"},
		{"\xff", "100 place at 0"},
		{"{}", "120"},
		{"1", "120"},
		{"[1]", "120 place [0]"},
		{`[{"nodeid":0}]`, "120 place [0].split"},
		{`[{"nodeid":0,"leaf":1e20}]`, "41 place [0].leaf"},
		{`[{"a":1,"a":2}]`, "102 place at 8"},
		{strings.Repeat("[", 257), "101 place at 256"},
		{strings.Replace(inner, `"nodeid":2`, `"nodeid":1`, 1), "102 place [0].children[1].nodeid"},
		{strings.Replace(inner, `"b"`, `"c"`, 1), "120 place [0].split"},
		{strings.Replace(inner, "0.5", "[1,1]", 1), "120 place [0].split_condition[1]"},
		{`[{"nodeid":0,"leaf":9000000000000}]`, "5 place rule 31 node 0"},
		{small, "100 place at 1"}, // of JSON's words only true begins with a t
	} {
		says(t, words("check --format=dump --features=a,b"), "fault file 0 code "+c.fault+"\n", 1, c.file)
		says(t, words("score --format=dump --features=a,b"), "fault file 0 code "+c.fault+"\n", 1, c.file, "x")
		says(t, words("equal --format=dump --features=a,b"), "fault file 1 code "+c.fault+"\n", 1, inner, c.file)
		says(t, words("merge --format=dump --features=a,b"), "fault file 2 code "+c.fault+"\n", 1, inner, dumped, c.file)
		says(t, words("merge --format=dump --features=a,b"), "fault file 1 code "+c.fault+"\n", 1, inner, c.file, "x")
	}
	says(t, words("check --format=dump --features=a,b"), "ok\n", 0, inner)
}

// The head of a dump: its features, outputs and base.
func TestHeads(t *testing.T) {
	rule := func(n string) string { return "fault file 0 code 5 place rule " + n + "\n" }
	for _, c := range []struct{ args, want string }{
		{"", rule("2")}, // no features at all
		{" --features=", rule("3 node 0")},
		{" --features=,", rule("3 node 0")},
		{" --features=a,", rule("3 node 1")},
		{" --features=,a", rule("3 node 0")},
		{" --features=a,,b", rule("3 node 1")},
		{" --features=a,a", rule("4 node 1")},
		{" --features=a,b,c,b", rule("4 node 3")},
		{" --features=a=b", rule("3 node 0")},
		{" --features=\xff", rule("3 node 0")},
		{" --features=" + strings.Repeat("n", api.MaxName), "ok\n"},
		{" --features=" + strings.Repeat("n", api.MaxName+1), rule("3 node 0")},
		{" --features=a", "ok\n"},
		{" --features=a,b,c", "ok\n"},
		{" --features=1,-,.", "ok\n"},
		{" --features=a --outputs=64", "ok\n"},
		{" --outputs=64", rule("2")},
	} {
		exit := 1
		if c.want == "ok\n" {
			exit = 0
		}
		says(t, words("check --format=dump"+c.args), c.want, exit, dumped)
		says(t, words("check"+c.args), "ok\n", 0, small) // of a text they say nothing
	}
	says(t, []string{"check", "--format=dump", "--features=a b"}, rule("3 node 0"), 1, dumped)
	says(t, []string{"check", "--format=dump", "--features= "}, rule("3 node 0"), 1, dumped)
	says(t, words("dump --format=dump --features=x,y --outputs=3"), "thicket 1\nname dump\noutputs 3\nbase 0 0 0\nfeatures 2\nfeature x\nfeature y\ntrees 4\ntree 0 1\nleaf 1\ntree 1 1\nleaf 2\ntree 2 1\nleaf 3\ntree 0 1\nleaf 4\nend\n", 0,
		`[{"nodeid":0,"leaf":1},{"nodeid":0,"leaf":2},{"nodeid":0,"leaf":3},{"nodeid":0,"leaf":4}]`)
	names := make([]string, api.MaxFeatures)
	for i := range names {
		names[i] = "f" + strconv.Itoa(i)
	}
	says(t, []string{"check", "--format=dump", "--features=" + strings.Join(names, ",")}, "ok\n", 0, dumped)
	says(t, []string{"check", "--format=dump", "--features=" + strings.Join(names, ",") + ",more"}, rule("2"), 1, dumped)
}

// A batch is read with the features of the model ahead, and as its options say.
func TestBatchesAtFault(t *testing.T) {
	three := strings.Replace(strings.Replace(small, "features 2", "features 3", 1), "feature b\n", "feature b\nfeature c\n", 1)
	for _, c := range []struct {
		model, options, file, fault string
	}{
		{small, "", "0 0\n0\n", "line 2 rule 2"},
		{small, "", "0 0 0\n", "line 1 rule 2"},
		{small, " --batch=dense", "# x\n\n0 \"0\"", "line 3 rule 3"},
		{small, "", "0 !", "line 1 rule 1"},
		{small, "", "a b", "line 1 rule 3"},
		{three, "", "0 0", "line 1 rule 2"},
		{small, " --batch=csv", "a\n1\n", "line 1 rule 2"},
		{small, " --batch=csv", "b,a,a\n", "line 1 rule 2"},
		{small, " --batch=csv", "\n\n", "line 3 rule 2"},
		{small, " --batch=csv", "a,b\n1,2,3\n", "line 2 rule 3"},
		{small, " --batch=csv", "b,x,a\n1,?,2\n1,2,?\n", "line 3 rule 4"},
		{small, " --batch=csv", "a,b\n\"1", "line 2 rule 1"},
		{three, " --batch=csv", "a,b\n1,2\n", "line 1 rule 2"},
		{small, " --batch=sparse", "1 3:1\n", "line 1 rule 4"},
		{small, " --batch=sparse", "0\n1 2:1 1:1\n", "line 2 rule 5"},
		{small, " --batch=sparse --lost=yes", "x 1:1\n", "line 1 rule 3"},
		{small, " --batch=sparse", "1 1 1\n", "line 1 rule 2"},
		{small, " --batch=sparse", "1 1:x\n", "line 1 rule 6"},
		{small, " --batch=sparse", "1 1:!\n", "line 1 rule 1"},
		{three, " --batch=sparse", "1 4:1\n", "line 1 rule 4"},
	} {
		for _, name := range []string{"score", "class", "reasons", "top"} {
			says(t, words(name+c.options), "fault file 1 code 191 "+c.fault+"\n", 1, c.model, c.file)
			says(t, words(name+" --lost=yes"+strings.Replace(c.options, " --lost=yes", "", 1)), "fault file 1 code 191 "+c.fault+"\n", 1, c.model, c.file)
		}
		if strings.Contains(c.options, "sparse") {
			says(t, words("rank"), "fault file 1 code 191 "+c.fault+"\n", 1, c.model, c.file)
		}
	}
	says(t, words("learn"), "fault file 0 code 191 line 1 rule 4\n", 1, "1 2:1")
	says(t, words("learn --columns=2"), "fault file 0 code 191 line 2 rule 4\n", 1, "1 2:1\n0 3:1")
	says(t, words("learn --columns=65536"), "fault file 0 code 191 line 2 rule 4\n", 1, "1\n0 65537:1")
	says(t, words("learn"), "fault file 0 code 191 line 1 rule 2\n", 1, "1 1")
	says(t, words("learn --lost=yes"), "fault file 0 code 191 line 3 rule 3\n", 1, "1\n\nx")
}

// Of errors of one run the first one counts: of arguments, of how many files, of files, of calls.
func TestErrorsInOrder(t *testing.T) {
	says(t, words("top --output=9 --k=x"), "fault argument 2\n", 2)
	says(t, words("top --output=9"), "fault files\n", 2, "x")
	says(t, words("top --output=9"), "fault file 0 code 191 line 1 rule 2\n", 1, "x", "x")
	says(t, words("top --output=9"), "fault file 1 code 191 line 1 rule 2\n", 1, small, "x")
	says(t, words("top --output=9"), "fault code 2\n", 3, small, "0 0")
	says(t, words("top"), "0\n", 0, small, "0 0")
}

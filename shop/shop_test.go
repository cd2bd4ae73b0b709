package shop

import (
	"math"
	"slices"
	"strconv"
	"strings"
	"testing"

	"thicket/api"
	"thicket/image"
	"thicket/text"
	"thicket/trees"
)

// small is chapter 9's text.
const small = "thicket 1\nname m\noutputs 1\nbase 0.5\nfeatures 2\nfeature a\nfeature b\ntrees 1\ntree 0 3\nsplit a <= 0.5 to 1 2 missing left\nleaf 1\nleaf -2.25\nend\n"

// wide has three features and two outputs, and no tree.
const wide = "thicket 1\nname w\noutputs 2\nbase 3 -4\nfeatures 3\nfeature x\nfeature y\nfeature z\ntrees 0\nend\n"

// loose says what small says, but is not written as Dump writes it.
const loose = "# a model\r\n\tthicket 1\n\nname   m # its name\routputs 1\nbase 0.500000\nfeatures 2\nfeature a\nfeature b\ntrees 1\ntree 0 3\nsplit a<=5e-1 to 2 1 missing left\nleaf -2.250\nleaf 001\nend"

// with is small with the leaf 1 turned to another one.
func with(leaf string) string { return strings.Replace(small, "leaf 1\n", "leaf "+leaf+"\n", 1) }

// shopOf has these texts as the versions of m.
func shopOf(t *testing.T, texts ...string) *Shop {
	t.Helper()
	s := New()
	putAll(t, s, "m", texts...)
	return s
}

func putAll(t *testing.T, s *Shop, name string, texts ...string) {
	t.Helper()
	for _, text := range texts {
		before, _ := s.Versions(name)
		if n, why, fault := s.Put(name, text); why != api.OK || n == 0 || fault != (api.Fault{}) {
			t.Fatalf("29.1: Put(%q): %d, %d, %v behind %v", name, n, why, fault, before)
		}
	}
}

func is(t *testing.T, what string, got, want api.Errno) {
	t.Helper()
	if got != want {
		t.Errorf("%s: error %d, not %d", what, got, want)
	}
}

func isPut(t *testing.T, s *Shop, name, text string, want int) {
	t.Helper()
	if n, why, fault := s.Put(name, text); n != want || why != api.OK || fault != (api.Fault{}) {
		t.Errorf("29.1: Put(%q): %d, %d, %v, not %d", name, n, why, fault, want)
	}
}

func noPut(t *testing.T, s *Shop, name, text string, want api.Errno, line, rule int) {
	t.Helper()
	before := s.Journal()
	if n, why, fault := s.Put(name, text); n != 0 || why != want || fault != (api.Fault{Line: line, Rule: rule}) {
		t.Errorf("29.1: Put(%q, %.40q): %d, %d, %v, not %d, line %d, rule %d", name, text, n, why, fault, want, line, rule)
	}
	if s.Journal() != before {
		t.Error("29.8: a Put that was refused has changed the shop")
	}
}

func isScore(t *testing.T, s *Shop, name, key string, x []float64, version int, want ...int64) {
	t.Helper()
	if l, n, why := s.Score(name, key, x); n != version || why != api.OK || !slices.Equal(l, want) {
		t.Errorf("29.5: Score(%q, %.20q, %v): %v, %d, %d, not %v, %d", name, key, x, l, n, why, want, version)
	}
}

func noScore(t *testing.T, s *Shop, name, key string, x []float64, want api.Errno) {
	t.Helper()
	if l, n, why := s.Score(name, key, x); len(l) != 0 || n != 0 || why != want {
		t.Errorf("29.5: Score(%q, %.20q, %v): %v, %d, %d, not %d", name, key, x, l, n, why, want)
	}
}

func isCurrent(t *testing.T, s *Shop, name string, want int, no api.Errno) {
	t.Helper()
	if n, why := s.Current(name); n != want || why != no {
		t.Errorf("29.3: Current(%q): %d, %d, not %d, %d", name, n, why, want, no)
	}
}

func isRoute(t *testing.T, s *Shop, name, key string, want int, no api.Errno) {
	t.Helper()
	if n, why := s.Route(name, key); n != want || why != no {
		t.Errorf("29.3: Route(%q, %.20q): %d, %d, not %d, %d", name, key, n, why, want, no)
	}
}

func areVersions(t *testing.T, s *Shop, name string, want ...int) {
	t.Helper()
	if l, why := s.Versions(name); why != api.OK || !slices.Equal(l, want) {
		t.Errorf("29.3: Versions(%q): %v, %d, not %v", name, l, why, want)
	}
}

func TestExamples(t *testing.T) {
	s := New()
	isPut(t, s, "m", small, 1)
	isPut(t, s, "m", with("7"), 2)
	isCurrent(t, s, "m", 2, api.OK)
	isScore(t, s, "m", "k", []float64{0, 0}, 2, 7500000)
	is(t, "Pin", s.Pin("m", 1), api.OK)
	isScore(t, s, "m", "k", []float64{0, 0}, 1, 1500000)
	is(t, "Withdraw of the pin", s.Withdraw("m", 1), api.ErrHeld)
	is(t, "Withdraw", s.Withdraw("m", 2), api.OK)
	is(t, "Withdraw again", s.Withdraw("m", 2), api.ErrGone)
	isPut(t, s, "m", small, 3)
	isCurrent(t, s, "m", 1, api.OK)

	noPut(t, s, "a b", small, api.ErrName, 0, 0)
	noPut(t, s, "m", "x", api.ErrLine, 1, 2)
	is(t, "Pin of no model", s.Pin("n", 1), api.ErrNoModel)
	is(t, "Pin of no version", s.Pin("m", 9), api.ErrNoVersion)
	is(t, "Unpin", s.Unpin("m"), api.OK)
	is(t, "Unpin without a pin", s.Unpin("m"), api.ErrSame)

	s = shopOf(t, small, small)
	is(t, "Try", s.Try("m", 1, 500), api.OK)
	isRoute(t, s, "m", "a", 2, api.OK)
	isRoute(t, s, "m", "k", 1, api.OK)
}

func TestNil(t *testing.T) {
	var s *Shop
	if n, why, fault := s.Put("m", small); n != 0 || why != api.ErrNil || fault != (api.Fault{}) {
		t.Error("P1: Put of a nil shop")
	}
	if n, why, fault := s.Put("a b", "x"); n != 0 || why != api.ErrNil || fault != (api.Fault{}) {
		t.Error("P1: Put of a nil shop and no name")
	}
	is(t, "Withdraw of a nil shop", s.Withdraw("m", 1), api.ErrNil)
	is(t, "Pin of a nil shop", s.Pin("m", 1), api.ErrNil)
	is(t, "Unpin of a nil shop", s.Unpin("m"), api.ErrNil)
	is(t, "Try of a nil shop", s.Try("m", 1, 0), api.ErrNil)
	is(t, "Stop of a nil shop", s.Stop("m"), api.ErrNil)
	if s.Names() != nil || s.Journal() != "" || s.Compact() != "" {
		t.Error("P1: Names, Journal, Compact of a nil shop")
	}
	if l, why := s.Versions("m"); l != nil || why != api.ErrNil {
		t.Error("P1: Versions of a nil shop")
	}
	isCurrent(t, s, "m", 0, api.ErrNil)
	isRoute(t, s, "m", "k", 0, api.ErrNil)
	if e, why := s.Model("m", 1); !trees.Same(e, api.Ensemble{}) || why != api.ErrNil {
		t.Error("P1: Model of a nil shop")
	}
	if n, why := s.Digest("m", 1); n != 0 || why != api.ErrNil {
		t.Error("P1: Digest of a nil shop")
	}
	noScore(t, s, "m", "k", nil, api.ErrNil)
	noScores(t, s, "m", nil, nil, 1, api.ErrNil)
	noScores(t, s, "m", []string{"k"}, nil, 1, api.ErrNil)
}

// A new shop has nothing.
func TestNew(t *testing.T) {
	s := New()
	if s == nil || len(s.Names()) != 0 || s.Journal() != "" || s.Compact() != "" {
		t.Fatal("New")
	}
	is(t, "Withdraw", s.Withdraw("m", 1), api.ErrNoModel)
	is(t, "Pin", s.Pin("m", 1), api.ErrNoModel)
	is(t, "Unpin", s.Unpin("m"), api.ErrNoModel)
	is(t, "Try", s.Try("m", 1, 1), api.ErrNoModel)
	is(t, "Stop", s.Stop("m"), api.ErrNoModel)
	_, why := s.Versions("m")
	is(t, "Versions", why, api.ErrNoModel)
	_, why = s.Model("m", 1)
	is(t, "Model", why, api.ErrNoModel)
	_, why = s.Digest("m", 1)
	is(t, "Digest", why, api.ErrNoModel)
	isCurrent(t, s, "m", 0, api.ErrNoModel)
	isRoute(t, s, "m", "", 0, api.ErrNoModel)
	noScore(t, s, "m", "", nil, api.ErrNoModel)
	if New().put("m", small); len(s.Names()) != 0 {
		t.Error("P4: two shops have to do with one another")
	}
}

func TestNames(t *testing.T) {
	s := New()
	long := strings.Repeat("n", api.MaxName)
	for _, name := range []string{"", " ", "a b", "é", "a\n", "#", "\"a\"", "a+b", "a\x00", "\xff", long + "n", "a,b", "m "} {
		noPut(t, s, name, small, api.ErrName, 0, 0)
		noPut(t, s, name, "x", api.ErrName, 0, 0) // ahead of the text's fault
		is(t, "Pin of no name", s.Pin(name, 1), api.ErrNoModel)
		isCurrent(t, s, name, 0, api.ErrNoModel)
	}
	names := []string{"m", "_", "-", ".", "7", "007", "1e5", "-1", "..", "Z", "a-b.c_d", "put", long, "a", "B", "b", "-.", "1.5"}
	for _, name := range names {
		isPut(t, s, name, small, 1)
		isScore(t, s, name, "k", []float64{1, 0}, 1, -1750000)
	}
	slices.Sort(names)
	if l := s.Names(); !slices.Equal(l, names) {
		t.Errorf("29.3: Names: %q, not %q", l, names)
	}
	same(t, "names of all kinds", replayed(t, s.Journal()), s)
}

func TestPut(t *testing.T) {
	s := New()
	// The fault of a text is told as Parse tells it.
	for _, c := range []struct {
		text       string
		line, rule int
	}{
		{"", 1, 2},
		{"\n\n", 3, 2},
		{"x", 1, 2},
		{"\x00", 1, 1},
		{strings.TrimSuffix(small, "end\n"), 13, 2},
		{small + "x\n", 14, 2},
		{strings.Replace(small, "outputs 1", "outputs 01", 1), 3, 4},
		{strings.Replace(small, "base 0.5", "base 4611686018427.387904", 1), 4, 13},
		{strings.Replace(small, "to 1 2", "to 1 1", 1), 12, 12},
	} {
		noPut(t, s, "m", c.text, api.ErrLine, c.line, c.rule)
		noPut(t, s, "a b", c.text, api.ErrName, 0, 0)
	}
	if len(s.Names()) != 0 {
		t.Error("29.8: a model came of a Put that was refused")
	}
	isPut(t, s, "m", loose, 1)
	isPut(t, s, "m", small, 2)
	isPut(t, s, "m", small, 3) // the same once more is a version of its own
	isPut(t, s, "n", wide, 1)
	noPut(t, s, "m", "x", api.ErrLine, 1, 2)
	isPut(t, s, "m", wide, 4)
	areVersions(t, s, "m", 1, 2, 3, 4)
	areVersions(t, s, "n", 1)
}

func TestMaxNames(t *testing.T) {
	s := New()
	for i := range api.MaxNames {
		isPut(t, s, "m"+strconv.Itoa(i), wide, 1)
	}
	noPut(t, s, "new", wide, api.ErrMany, 0, 0)
	noPut(t, s, "new", "x", api.ErrLine, 1, 2) // the text's fault comes first
	noPut(t, s, "a b", wide, api.ErrName, 0, 0)
	isPut(t, s, "m7", wide, 2)
	is(t, "Withdraw", s.Withdraw("m0", 1), api.OK)
	noPut(t, s, "new", wide, api.ErrMany, 0, 0) // a model without a version that stands is still one
	isPut(t, s, "m0", wide, 2)
	if len(s.Names()) != api.MaxNames || !slices.IsSorted(s.Names()) {
		t.Error("29.3: Names of as many as may be")
	}
	journal := s.Journal()
	same(t, "as many models as may be", replayed(t, journal), s)
	if _, why, line := Replay(journal + putText("new", wide)); why != api.ErrMany || line != 1+strings.Count(journal, "\n") {
		t.Error("29.7: Replay of one model more:", why, line)
	}
}

func TestMaxVersions(t *testing.T) {
	s := New()
	for i := range api.MaxVersions {
		isPut(t, s, "m", wide, i+1)
	}
	noPut(t, s, "m", wide, api.ErrMany, 0, 0)
	noPut(t, s, "m", "x", api.ErrLine, 1, 2)
	is(t, "Withdraw", s.Withdraw("m", 1), api.OK)
	is(t, "Withdraw", s.Withdraw("m", api.MaxVersions), api.OK)
	noPut(t, s, "m", wide, api.ErrMany, 0, 0) // what was withdrawn has been a version
	isCurrent(t, s, "m", api.MaxVersions-1, api.OK)
	is(t, "Pin", s.Pin("m", api.MaxVersions+1), api.ErrNoVersion)
	isPut(t, s, "n", wide, 1)
	journal := s.Journal()
	same(t, "as many versions as may be", replayed(t, journal), s)
	same(t, "as many versions as may be, compact", replayed(t, s.Compact()), s)
	if _, why, line := Replay(journal + putText("m", wide)); why != api.ErrMany || line != 1+strings.Count(journal, "\n") {
		t.Error("29.7: Replay of one version more:", why, line)
	}
}

// A version's error comes first, then what the call says.
func TestVersionErrors(t *testing.T) {
	s := shopOf(t, small, small, small, small)
	is(t, "Withdraw", s.Withdraw("m", 2), api.OK)
	is(t, "Pin", s.Pin("m", 3), api.OK)
	is(t, "Try", s.Try("m", 4, 1), api.OK)
	before := s.Journal()
	for _, c := range []struct {
		name    string
		version int
		want    api.Errno
	}{
		{"n", 1, api.ErrNoModel},
		{"n", 0, api.ErrNoModel},
		{"", 1, api.ErrNoModel},
		{"M", 1, api.ErrNoModel},
		{"m ", 1, api.ErrNoModel},
		{"m", 0, api.ErrNoVersion},
		{"m", -1, api.ErrNoVersion},
		{"m", math.MinInt, api.ErrNoVersion},
		{"m", 5, api.ErrNoVersion},
		{"m", math.MaxInt, api.ErrNoVersion},
		{"m", 2, api.ErrGone},
	} {
		is(t, "Withdraw", s.Withdraw(c.name, c.version), c.want)
		is(t, "Pin", s.Pin(c.name, c.version), c.want)
		for _, share := range []int{1, 0, -1, api.MaxShare + 1} { // a wrong share is told behind that
			is(t, "Try", s.Try(c.name, c.version, share), c.want)
		}
		e, why := s.Model(c.name, c.version)
		if is(t, "Model", why, c.want); !trees.Same(e, api.Ensemble{}) {
			t.Error("P2: Model answers", e)
		}
		d, why := s.Digest(c.name, c.version)
		if is(t, "Digest", why, c.want); d != 0 {
			t.Error("P2: Digest answers", d)
		}
	}
	is(t, "Withdraw of the pin", s.Withdraw("m", 3), api.ErrHeld)
	is(t, "Withdraw of the trial's", s.Withdraw("m", 4), api.ErrHeld)
	is(t, "the same pin", s.Pin("m", 3), api.ErrSame)
	is(t, "the same trial", s.Try("m", 4, 1), api.ErrSame)
	for _, share := range []int{0, -1, math.MinInt, api.MaxShare + 1, math.MaxInt} {
		is(t, "a wrong share", s.Try("m", 4, share), api.ErrRange)
		is(t, "a wrong share", s.Try("m", 1, share), api.ErrRange)
	}
	if s.Journal() != before {
		t.Error("29.8: calls that were refused have changed the shop")
	}
	areVersions(t, s, "m", 1, 3, 4)
	isCurrent(t, s, "m", 3, api.OK)
}

func TestHeld(t *testing.T) {
	s := shopOf(t, small, small)
	is(t, "Pin", s.Pin("m", 1), api.OK)
	is(t, "Try", s.Try("m", 1, 1000), api.OK)
	is(t, "of both", s.Withdraw("m", 1), api.ErrHeld)
	is(t, "Unpin", s.Unpin("m"), api.OK)
	is(t, "of the trial alone", s.Withdraw("m", 1), api.ErrHeld)
	is(t, "Pin", s.Pin("m", 1), api.OK)
	is(t, "Stop", s.Stop("m"), api.OK)
	is(t, "of the pin alone", s.Withdraw("m", 1), api.ErrHeld)
	is(t, "another pin", s.Pin("m", 2), api.OK)
	is(t, "of none", s.Withdraw("m", 1), api.OK)
	is(t, "Pin of what is gone", s.Pin("m", 1), api.ErrGone)
	is(t, "Try of what is gone", s.Try("m", 1, 5), api.ErrGone)
}

func TestPin(t *testing.T) {
	s := shopOf(t, small, with("7"))
	is(t, "Unpin of no model", s.Unpin("n"), api.ErrNoModel)
	is(t, "Unpin without a pin", s.Unpin("m"), api.ErrSame)
	is(t, "a pin of the current one", s.Pin("m", 2), api.OK)
	isPut(t, s, "m", with("8"), 3)
	isCurrent(t, s, "m", 2, api.OK) // a new version is not asked while another one is pinned
	is(t, "the same pin", s.Pin("m", 2), api.ErrSame)
	is(t, "another pin", s.Pin("m", 1), api.OK)
	is(t, "Withdraw", s.Withdraw("m", 3), api.OK)
	isCurrent(t, s, "m", 1, api.OK)
	is(t, "Unpin", s.Unpin("m"), api.OK)
	isCurrent(t, s, "m", 2, api.OK)
	is(t, "Unpin again", s.Unpin("m"), api.ErrSame)
	isPut(t, s, "n", small, 1)
	is(t, "Pin of another model", s.Pin("n", 1), api.OK)
	is(t, "Unpin of this one", s.Unpin("m"), api.ErrSame)
}

func TestCurrent(t *testing.T) {
	s := shopOf(t, small, with("2"), with("3"))
	areVersions(t, s, "m", 1, 2, 3)
	isCurrent(t, s, "m", 3, api.OK)
	for i, n := range []int{2, 3} {
		is(t, "Withdraw", s.Withdraw("m", n), api.OK)
		isCurrent(t, s, "m", []int{3, 1}[i], api.OK)
	}
	areVersions(t, s, "m", 1)
	is(t, "Withdraw", s.Withdraw("m", 1), api.OK)
	areVersions(t, s, "m")
	if l := s.Names(); !slices.Equal(l, []string{"m"}) {
		t.Error("29.3: a model without a version that stands is still one:", l)
	}
	isCurrent(t, s, "m", 0, api.ErrNoVersion)
	isRoute(t, s, "m", "k", 0, api.ErrNoVersion)
	noScore(t, s, "m", "k", []float64{0, 0}, api.ErrNoVersion)
	noScore(t, s, "m", "k", nil, api.ErrNoVersion) // ahead of the vector's error
	is(t, "Pin of what is gone", s.Pin("m", 1), api.ErrGone)
	isPut(t, s, "m", with("4"), 4)
	isCurrent(t, s, "m", 4, api.OK)
	areVersions(t, s, "m", 4)
	isScore(t, s, "m", "k", []float64{0, 0}, 4, 4500000)
}

// keyOf is a key whose sum, modulo MaxShare, is this.
func keyOf(part uint64) string {
	for i := 0; ; i++ {
		if key := "key" + strconv.Itoa(i); image.Sum([]byte(key))%api.MaxShare == part {
			return key
		}
	}
}

func TestTry(t *testing.T) {
	s := shopOf(t, small, with("2"), with("3"))
	is(t, "Stop of no model", s.Stop("n"), api.ErrNoModel)
	is(t, "Stop without a trial", s.Stop("m"), api.ErrSame)
	for _, share := range []int{1, 2, 37, 38, 500, 999, 1000} {
		is(t, "Try", s.Try("m", 1, share), api.OK)
		is(t, "the same trial", s.Try("m", 1, share), api.ErrSame)
		isRoute(t, s, "m", keyOf(0), 1, api.OK)
		isRoute(t, s, "m", keyOf(uint64(share-1)), 1, api.OK)
		if share < api.MaxShare {
			isRoute(t, s, "m", keyOf(uint64(share)), 3, api.OK)
			isRoute(t, s, "m", keyOf(999), 3, api.OK)
		}
		want := 3
		if share > 37 { // the sum of no bytes is 14695981039346656037
			want = 1
		}
		isRoute(t, s, "m", "", want, api.OK)
		isCurrent(t, s, "m", 3, api.OK) // a trial is not the current one
	}
	is(t, "another version with that share", s.Try("m", 2, 1000), api.OK)
	isRoute(t, s, "m", "any", 2, api.OK)
	is(t, "Pin", s.Pin("m", 1), api.OK)
	isRoute(t, s, "m", "any", 2, api.OK)
	is(t, "a trial of the pin", s.Try("m", 1, 1), api.OK)
	isRoute(t, s, "m", keyOf(0), 1, api.OK)
	isRoute(t, s, "m", keyOf(1), 1, api.OK)
	is(t, "Stop", s.Stop("m"), api.OK)
	is(t, "Stop again", s.Stop("m"), api.ErrSame)
	isRoute(t, s, "m", keyOf(0), 1, api.OK)
	is(t, "Unpin", s.Unpin("m"), api.OK)
	isRoute(t, s, "m", keyOf(0), 3, api.OK)
}

// All versions but the trial's may be withdrawn; it is then the current one too.
func TestTrialAlone(t *testing.T) {
	s := shopOf(t, small, with("2"))
	is(t, "Try", s.Try("m", 1, 1), api.OK)
	is(t, "Withdraw", s.Withdraw("m", 2), api.OK)
	isRoute(t, s, "m", keyOf(0), 1, api.OK)
	isRoute(t, s, "m", keyOf(1), 1, api.OK)
	isCurrent(t, s, "m", 1, api.OK)
}

// Keys are any bytes.
func TestKeys(t *testing.T) {
	s := shopOf(t, small, with("7"))
	is(t, "Try", s.Try("m", 1, 500), api.OK)
	keys := []string{"", "a", "k", "\x00", "\xff\xfe", "é", "a\nb", strings.Repeat("long", 1<<18), " ", "\"", "k ", "K"}
	met := map[int]int{}
	for _, key := range keys {
		want, score := 2, int64(7500000)
		if fnv(key)%1000 < 500 {
			want, score = 1, 1500000
		}
		met[want]++
		isRoute(t, s, "m", key, want, api.OK)
		isScore(t, s, "m", key, []float64{0, 0}, want, score)
	}
	if met[1] < 2 || met[2] < 2 {
		t.Error("keys on one side alone:", met)
	}
}

func TestModel(t *testing.T) {
	s := shopOf(t, loose, small, wide)
	for n, source := range []string{loose, small, wide} {
		e, _, _ := text.Parse(source)
		want, _ := trees.Model(e)
		dump, _, _ := text.Dump(source)
		if got, why := s.Model("m", n+1); why != api.OK || !trees.Same(got, want) {
			t.Errorf("29.4: Model: %v, %d, not %v", got, why, want)
		}
		if d, why := s.Digest("m", n+1); why != api.OK || d != fnv(dump) {
			t.Errorf("29.4: Digest: %x, %d, not %x", d, why, fnv(dump))
		}
	}
	one, _ := s.Digest("m", 1)
	two, _ := s.Digest("m", 2)
	three, _ := s.Digest("m", 3)
	if one != two || one == three {
		t.Error("29.4: Digests of texts that say one thing, and of others:", one, two, three)
	}
}

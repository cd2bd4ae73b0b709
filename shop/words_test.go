package shop

import (
	"fmt"
	lib "hash/fnv"
	"math/rand/v2"
	"regexp"
	"slices"
	"strconv"
	"strings"
	"testing"

	"thicket/api"
	"thicket/text"
	"thicket/trees"
)

// A second opinion, from the chapter's words: a shop that keeps nothing but sources, and looks for its answers anew each time.

func source() *rand.Rand { return rand.New(rand.NewPCG(29, 29)) }

// fnv is the library's sum.
func fnv(s string) uint64 {
	h := lib.New64a()
	h.Write([]byte(s))
	return h.Sum64()
}

// twin is a model of the other shop.
type twin struct {
	sources    []string
	gone       map[int]bool
	pin        int
	try, share int
}

type twins struct {
	models  map[string]*twin
	journal []string // a command each
}

func newTwins() *twins { return &twins{models: map[string]*twin{}} }

var isName = regexp.MustCompile(`\A[A-Za-z0-9_.-]{1,64}\z`)

// putText is a put as a journal has it.
func putText(name, source string) string {
	dump, _, _ := text.Dump(source)
	lines := strings.SplitAfter(strings.TrimSuffix(dump, "\n"), "\n")
	return fmt.Sprintf("put %s %d\n %s\n", name, len(lines), strings.Join(lines, " "))
}

func (w *twins) put(name, source string) (int, api.Errno, api.Fault) {
	if !isName.MatchString(name) {
		return 0, api.ErrName, api.Fault{}
	}
	if _, why, fault := text.Parse(source); why != api.OK {
		return 0, why, fault
	}
	m := w.models[name]
	if m == nil && len(w.models) >= 1024 || m != nil && len(m.sources) >= 1024 {
		return 0, api.ErrMany, api.Fault{}
	}
	if m == nil {
		m = &twin{gone: map[int]bool{}}
		w.models[name] = m
	}
	m.sources = append(m.sources, source)
	w.journal = append(w.journal, putText(name, source))
	return len(m.sources), api.OK, api.Fault{}
}

// versionError is that of a name and a version.
func (w *twins) versionError(name string, version int) api.Errno {
	m := w.models[name]
	switch {
	case m == nil:
		return api.ErrNoModel
	case version <= 0 || version > len(m.sources):
		return api.ErrNoVersion
	case m.gone[version]:
		return api.ErrGone
	}
	return api.OK
}

func (w *twins) do(verb, name string, version, share int) api.Errno {
	m := w.models[name]
	why := w.versionError(name, version)
	said := fmt.Sprintf("%s %s %d\n", verb, name, version)
	if verb == "unpin" || verb == "stop" {
		said = fmt.Sprintf("%s %s\n", verb, name)
		if why != api.ErrNoModel {
			why = api.OK
		}
	}
	if why != api.OK {
		return why
	}
	switch verb {
	case "withdraw":
		if m.pin == version || m.try == version {
			return api.ErrHeld
		}
		m.gone[version] = true
	case "pin":
		if m.pin == version {
			return api.ErrSame
		}
		m.pin = version
	case "unpin":
		if m.pin == 0 {
			return api.ErrSame
		}
		m.pin = 0
	case "try":
		if share <= 0 || share > 1000 {
			return api.ErrRange
		}
		if m.try == version && m.share == share {
			return api.ErrSame
		}
		m.try, m.share = version, share
		said = fmt.Sprintf("try %s %d %d\n", name, version, share)
	case "stop":
		if m.try == 0 {
			return api.ErrSame
		}
		m.try, m.share = 0, 0
	}
	w.journal = append(w.journal, said)
	return api.OK
}

func (w *twins) names() []string {
	l := []string{}
	for name := range w.models {
		l = append(l, name)
	}
	slices.Sort(l)
	return l
}

func (m *twin) versions() []int {
	l := []int{}
	for n := range len(m.sources) {
		if !m.gone[n+1] {
			l = append(l, n+1)
		}
	}
	return l
}

func (m *twin) current() (int, api.Errno) {
	l := m.versions()
	switch {
	case m.pin != 0:
		return m.pin, api.OK
	case len(l) == 0:
		return 0, api.ErrNoVersion
	}
	return l[len(l)-1], api.OK
}

func (w *twins) route(name, key string) (int, api.Errno) {
	m := w.models[name]
	switch {
	case m == nil:
		return 0, api.ErrNoModel
	case m.try != 0 && int(fnv(key)%1000) < m.share:
		return m.try, api.OK
	}
	return m.current()
}

func (w *twins) ensemble(name string, version int) api.Ensemble {
	e, _, _ := text.Parse(w.models[name].sources[version-1])
	return e
}

func (w *twins) score(name, key string, x []float64) ([]int64, int, api.Errno) {
	n, why := w.route(name, key)
	if why != api.OK {
		return nil, 0, why
	}
	e := w.ensemble(name, n)
	if len(x) != len(e.Features) {
		return nil, 0, api.ErrVector
	}
	l, why := trees.Score(e, x)
	return l, n, why
}

func (w *twins) scores(name string, keys []string, l [][]float64) ([][]int64, []int, api.Errno) {
	if len(keys) != len(l) {
		return nil, nil, api.ErrSize
	}
	var sums [][]int64
	var versions []int
	for i := range keys {
		one, n, why := w.score(name, keys[i], l[i])
		if why != api.OK {
			return nil, nil, why
		}
		sums, versions = append(sums, one), append(versions, n)
	}
	return sums, versions, api.OK
}

func (w *twins) compact() string {
	s := ""
	for _, name := range w.names() {
		m := w.models[name]
		for _, source := range m.sources {
			s += putText(name, source)
		}
		for n := range len(m.sources) {
			if m.gone[n+1] {
				s += fmt.Sprintf("withdraw %s %d\n", name, n+1)
			}
		}
		if m.pin != 0 {
			s += fmt.Sprintf("pin %s %d\n", name, m.pin)
		}
		if m.try != 0 {
			s += fmt.Sprintf("try %s %d %d\n", name, m.try, m.share)
		}
	}
	return s
}

var (
	oneEnd   = regexp.MustCompile("\r\n|\r|\n")
	isBlank  = regexp.MustCompile(`\A[ \t]*(?:#|\z)`)
	aName    = `[ \t]+((?:[A-Za-z_][A-Za-z0-9_.-]*|[0-9+.-][A-Za-z0-9_+.-]*))`
	aNumber  = `[ \t]+(0|[1-9][0-9]{0,8})`
	oneOrder = []*regexp.Regexp{
		regexp.MustCompile(`(?s)\A[ \t]*(put|withdraw|pin)` + aName + aNumber + `[ \t]*(?:#.*)?\z`),
		regexp.MustCompile(`(?s)\A[ \t]*(unpin|stop)` + aName + `[ \t]*(?:#.*)?\z`),
		regexp.MustCompile(`(?s)\A[ \t]*(try)` + aName + aNumber + aNumber + `[ \t]*(?:#.*)?\z`),
	}
)

// replayByWords is what a journal makes; the error and the line, where there is one.
func replayByWords(s string) (*twins, api.Errno, int) {
	lines := oneEnd.Split(s, -1)
	if lines[len(lines)-1] == "" {
		lines = lines[:len(lines)-1]
	}
	w := newTwins()
	for i := 0; i < len(lines); i++ {
		if isBlank.MatchString(lines[i]) {
			continue
		}
		var found []string
		for _, form := range oneOrder {
			if l := form.FindStringSubmatch(lines[i]); l != nil {
				found = append(l[1:], "0", "0")
			}
		}
		if found == nil {
			return nil, api.ErrLine, i + 1
		}
		a, _ := strconv.Atoi(found[2])
		b, _ := strconv.Atoi(found[3])
		if found[0] != "put" {
			if why := w.do(found[0], found[1], a, b); why != api.OK {
				return nil, why, i + 1
			}
			continue
		}
		source := ""
		for k := 1; k <= a; k++ {
			if i+k >= len(lines) || !strings.HasPrefix(lines[i+k], " ") {
				return nil, api.ErrLine, i + 1
			}
			source += lines[i+k][1:] + "\n"
		}
		if _, why, _ := w.put(found[1], source); why != api.OK {
			return nil, why, i + 1
		}
		i += a
	}
	return w, api.OK, 0
}

var (
	someKeys    = []string{"", "a", "k", "key", "\xff", "0", "1", "2"}
	someVectors = [][]float64{{0, 0}, {1, 0}, {nan, endless}, {0, 0, 0}, nil}
)

// state is all that a shop answers, but its Journal.
func state(s *Shop) string {
	var b strings.Builder
	for _, name := range append(s.Names(), "not there") {
		l, why := s.Versions(name)
		n, no := s.Current(name)
		fmt.Fprintln(&b, name, l, why, n, no)
		for _, key := range someKeys {
			n, why := s.Route(name, key)
			fmt.Fprint(&b, n, why, " ")
			for _, x := range someVectors {
				fmt.Fprint(&b, told(s.Score(name, key, x)), " ")
			}
		}
		for version := range 1 + len(l) {
			e, why := s.Model(name, version)
			d, no := s.Digest(name, version)
			fmt.Fprintln(&b, e, why, d, no)
		}
	}
	b.WriteString(s.Compact())
	return b.String()
}

func told(l []int64, n int, why api.Errno) string { return fmt.Sprint(l, n, why) }

func same(t *testing.T, what string, a, b *Shop) {
	t.Helper()
	if x, y := state(a), state(b); x != y {
		t.Errorf("29.9: %s: not the same shop: %.500q, not %.500q", what, x, y)
	}
}

// replayed is the shop that a journal makes.
func replayed(t *testing.T, journal string) *Shop {
	t.Helper()
	s, why, line := Replay(journal)
	if s == nil || why != api.OK || line != 0 {
		t.Fatalf("29.7: Replay: %v, %d, line %d of %.500q", s, why, line, journal)
	}
	return s
}

// hold holds all answers of a shop against those of the other one.
func hold(t *testing.T, s *Shop, w *twins) {
	t.Helper()
	if names := s.Names(); !slices.Equal(names, w.names()) {
		t.Fatalf("29.3: Names: %q, not %q", names, w.names())
	}
	if s.Journal() != strings.Join(w.journal, "") {
		t.Fatalf("29.6: Journal: %q, not %q", s.Journal(), strings.Join(w.journal, ""))
	}
	if s.Compact() != w.compact() {
		t.Fatalf("29.6: Compact: %q, not %q", s.Compact(), w.compact())
	}
	for name, m := range w.models {
		if l, why := s.Versions(name); why != api.OK || !slices.Equal(l, m.versions()) {
			t.Fatal("29.3: Versions:", l, why, m.versions())
		}
		want, no := m.current()
		if n, why := s.Current(name); n != want || why != no {
			t.Fatal("29.3: Current:", n, why, want, no)
		}
		holdModel(t, s, w, name)
		holdScores(t, s, w, name)
	}
}

func holdModel(t *testing.T, s *Shop, w *twins, name string) {
	t.Helper()
	for n := -1; n < len(w.models[name].sources)+2; n++ {
		e, why := s.Model(name, n)
		d, no := s.Digest(name, n)
		want, sum, must := api.Ensemble{}, uint64(0), w.versionError(name, n)
		if must == api.OK {
			want, _ = trees.Model(w.ensemble(name, n))
			dump, _ := text.Print(want)
			sum = fnv(dump)
		}
		if why != must || no != must || !trees.Same(e, want) || d != sum {
			t.Fatal("29.4: Model, Digest:", name, n, why, no, must)
		}
	}
}

func holdScores(t *testing.T, s *Shop, w *twins, name string) {
	t.Helper()
	for _, x := range someVectors {
		for _, key := range someKeys {
			n, why := s.Route(name, key)
			want, no := w.route(name, key)
			if n != want || why != no {
				t.Fatal("29.3: Route:", n, why, want, no)
			}
			if a, b := told(s.Score(name, key, x)), told(w.score(name, key, x)); a != b {
				t.Fatal("29.5: Score:", a, b)
			}
		}
	}
	l := make([][]float64, len(someKeys))
	for workers, x := range someVectors {
		for i := range l {
			l[i] = x
		}
		sums, versions, why := s.Scores(name, someKeys, l, workers)
		must, all, no := w.scores(name, someKeys, l)
		if why != no || !slices.EqualFunc(sums, must, slices.Equal) || !slices.Equal(versions, all) {
			t.Fatal("29.5: Scores:", sums, versions, why, must, all, no)
		}
	}
}

func pick[T any](r *rand.Rand, l ...T) T { return l[r.IntN(len(l))] }

func someText(r *rand.Rand) string {
	return pick(r, small, small, wide, loose, with("7"), with("-0.000001"), with(strconv.Itoa(r.IntN(100))), "", "x", small+"x", strings.ToUpper(small))
}

// act does one thing to both shops, and tells whether they answer alike.
func act(t *testing.T, r *rand.Rand, s *Shop, w *twins) api.Errno {
	t.Helper()
	name := pick(r, "m", "m", "m", "m", "m", "n", "n", "1", "-", "", "a b")
	version, share := pick(r, 1, 1, 2, 2, 3, r.IntN(7)-1), pick(r, 0, 1, 38, 500, 500, 1000, 1001, -1)
	switch verb := pick(r, "put", "put", "put", "withdraw", "withdraw", "pin", "unpin", "try", "stop"); verb {
	case "put":
		source := someText(r)
		n, why, fault := s.Put(name, source)
		want, no, must := w.put(name, source)
		if n != want || why != no || fault != must {
			t.Fatal("29.1: Put:", n, why, fault, want, no, must)
		}
		return why
	default:
		why := api.OK
		switch verb {
		case "withdraw":
			why = s.Withdraw(name, version)
		case "pin":
			why = s.Pin(name, version)
		case "unpin":
			why = s.Unpin(name)
		case "try":
			why = s.Try(name, version, share)
		case "stop":
			why = s.Stop(name)
		}
		if want := w.do(verb, name, version, share); why != want {
			t.Fatalf("29.2: %s %q %d %d: %d, not %d", verb, name, version, share, why, want)
		}
		return why
	}
}

// Any calls, one behind the other: each shop is what the words say, and is made again by its journals.
func TestAnyCalls(t *testing.T) {
	r := source()
	count := map[api.Errno]int{}
	for range 60 {
		s, w := New(), newTwins()
		for step := range 40 {
			before := s.Journal()
			why := act(t, r, s, w)
			count[why]++
			if why != api.OK && s.Journal() != before {
				t.Fatal("29.8: a call that was refused has changed the shop")
			}
			if step%4 == 3 {
				hold(t, s, w)
			}
		}
		again, small := replayed(t, s.Journal()), replayed(t, s.Compact())
		hold(t, again, w)
		same(t, "Replay of Journal", again, s)
		same(t, "Replay of Compact", small, s)
		if again.Journal() != s.Journal() || small.Journal() != s.Compact() || small.Compact() != s.Compact() {
			t.Fatal("29.6: the journal of a shop that was made again")
		}
	}
	for _, why := range []api.Errno{api.OK, api.ErrName, api.ErrLine, api.ErrNoModel, api.ErrNoVersion, api.ErrGone, api.ErrHeld, api.ErrSame, api.ErrRange} {
		if count[why] < 10 {
			t.Error("few of these:", why, count[why])
		}
	}
}

// A front of a journal is that of the shop as it was then; what is cut within a command is told as the words say.
func TestFronts(t *testing.T) {
	r := source()
	for range 3 {
		s, w := New(), newTwins()
		states := map[string]string{"": state(s)} // by journal
		for range 14 {
			act(t, r, s, w)
			states[s.Journal()] = state(s)
		}
		journal, fronts := s.Journal(), 0
		for i := range len(journal) + 1 {
			got, why, line := Replay(journal[:i])
			want, no, at := replayByWords(journal[:i])
			if why != no || line != at {
				t.Fatalf("29.7: %q: %d, line %d, not %d, line %d", journal[:i], why, line, no, at)
			}
			if why != api.OK {
				if got != nil {
					t.Fatal("P2: a shop beside an error")
				}
				continue
			}
			if got.Journal() != strings.Join(want.journal, "") {
				t.Fatalf("29.6: the journal of %q", journal[:i])
			}
			if was, ok := states[journal[:i]]; ok {
				fronts++
				if got.Journal() != journal[:i] || state(got) != was {
					t.Fatalf("29.9: a front is not the shop as it was: %q", journal[:i])
				}
			}
		}
		if fronts != len(states) {
			t.Error("29.9: of so many fronts:", fronts, "not", len(states))
		}
	}
}

// someLine is a line that may stand in a journal, or nearly so.
func someLine(r *rand.Rand) string {
	name := pick(r, "m", "m", "m", "n", "1", "-x", "a+b", "+", "\"m\"", "", "=", strings.Repeat("m", 65))
	number := func() string {
		return pick(r, "1", "1", "1", "2", "3", "0", "01", "+1", "-1", "1.0", "1e0", "x", "999999999", "1000000000", "", "1 1", "500")
	}
	end := pick(r, "\n", "\n", "\n", "\r\n", "\r", " # remark\n", "\t\n", "")
	switch r.IntN(12) {
	case 0:
		return pick(r, "\n", "# put m 1\n", " \t\n", "hello\n", "\xff\n", "\"\n", "PIN m 1\n", "pin, m 1\n", "unpin\n")
	case 1, 2, 3, 4:
		s := putText(pick(r, "m", "m", "m", "n", "1", "-x", "a+b", "1+b", strings.Repeat("m", 65)), pick(r, small, with("7"), wide))
		switch r.IntN(8) {
		case 0:
			return strings.Replace(s, "\n ", "\n", 1)
		case 1:
			return strings.Replace(s, "\n end", "\n END", 1)
		case 2:
			return strings.ReplaceAll(s, "\n", end)
		case 3:
			return strings.Replace(s, "13", number(), 1)
		}
		return s
	case 5, 6:
		return "pin " + name + " " + number() + end
	case 7:
		return "withdraw\t" + pick(r, name, "m") + "  " + pick(r, "1", number()) + end
	case 8:
		return pick(r, "unpin ", " stop ") + name + end
	case 9, 10:
		return "try " + pick(r, name, "m") + " " + pick(r, "1", number()) + " " + number() + end
	}
	return pick(r, "put ", "pin ", "try ", "stop ", "unpin ", "with ") + name + " " + number() + " " + number() + " " + number() + end
}

// Any journals: each is done, or refused at the line that the words say.
func TestAnyJournals(t *testing.T) {
	r := source()
	count := map[api.Errno]int{}
	for range 6000 {
		s := pick(r, "", putText("m", small), putText("m", wide)+putText("m", small)+pick(r, "pin m 1\n", "withdraw m 1\n", "try m 1 5\n"))
		for range 1 + r.IntN(4) {
			s += someLine(r)
		}
		got, why, line := Replay(s)
		want, no, at := replayByWords(s)
		if why != no || line != at || (got == nil) != (want == nil) {
			t.Fatalf("29.7: %q: %d, line %d, not %d, line %d", s, why, line, no, at)
		}
		if count[why]++; why == api.OK && count[why]%20 == 0 {
			hold(t, got, want)
		}
	}
	for _, why := range []api.Errno{api.OK, api.ErrLine, api.ErrName, api.ErrNoModel, api.ErrNoVersion, api.ErrGone, api.ErrHeld, api.ErrSame, api.ErrRange} {
		if count[why] < 5 {
			t.Error("few of these:", why, count[why])
		}
	}
}

// Any bytes: Replay ends, and says what the words say.
func TestAnyBytes(t *testing.T) {
	r := source()
	journal := putText("m", small) + "pin m 1\ntry m 1 500\nunpin m\nstop m\nwithdraw m 1\n"
	for range 5000 {
		b := []byte(journal)
		for range 1 + r.IntN(3) {
			b[r.IntN(len(b))] = byte(pick(r, r.IntN(256), '\n', ' ', '#', '0', '1', '"'))
		}
		_, why, line := Replay(string(b))
		_, no, at := replayByWords(string(b))
		if why != no || line != at {
			t.Fatalf("29.7: %q: %d, line %d, not %d, line %d", b, why, line, no, at)
		}
	}
}

// What a version says never changes, whatever is called behind it.
func TestVersionsStay(t *testing.T) {
	r := source()
	for range 30 {
		s, w := New(), newTwins()
		met := map[string]string{} // what a version said when it was first asked
		for range 60 {
			act(t, r, s, w)
			for name, m := range w.models {
				for _, n := range m.versions() {
					e, _ := s.Model(name, n)
					d, _ := s.Digest(name, n)
					said := fmt.Sprint(e, d)
					for _, x := range someVectors[:3] {
						sums, _ := trees.Score(e, x)
						said += fmt.Sprint(sums)
					}
					at := fmt.Sprint(name, " ", n)
					if was, ok := met[at]; ok && was != said {
						t.Fatalf("29.10: %s: %s, not %s", at, said, was)
					}
					met[at] = said
				}
				for _, key := range someKeys { // and by a score: of the version that answers
					for _, x := range someVectors {
						sums, n, why := s.Score(name, key, x)
						if why != api.OK {
							continue
						}
						at := fmt.Sprint(name, n, x)
						if was, ok := met[at]; ok && was != fmt.Sprint(sums) {
							t.Fatalf("29.10: %s: %v, not %s", at, sums, was)
						}
						met[at] = fmt.Sprint(sums)
					}
				}
			}
		}
	}
}

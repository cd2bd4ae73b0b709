package shop

import (
	"bytes"
	"cmp"
	"slices"
	"strings"
	"testing"
	"unsafe"

	"thicket/api"
	"thicket/text"
	"thicket/trees"
)

// room is a list's memory, its spare room included.
type room []byte

func roomOf[T any](l []T) room {
	var one T
	return unsafe.Slice((*byte)(unsafe.Pointer(unsafe.SliceData(l))), cap(l)*int(unsafe.Sizeof(one)))
}

// textRoom is a text's memory.
func textRoom(s string) room { return unsafe.Slice(unsafe.StringData(s), len(s)) }

func (r room) from() uintptr { return uintptr(unsafe.Pointer(unsafe.SliceData(r))) }

func (r room) to() uintptr { return r.from() + uintptr(len(r)) }

func roomsOfEnsemble(e api.Ensemble) []room {
	l := []room{roomOf(e.Features), roomOf(e.Base), roomOf(e.Trees), textRoom(e.Name)}
	for _, name := range e.Features {
		l = append(l, textRoom(name))
	}
	for _, g := range e.Trees {
		l = append(l, roomOf(g.Nodes))
		for _, n := range g.Nodes {
			l = append(l, roomOf(n.Cats))
		}
	}
	return l
}

// areApart tells whether no two rooms have a byte in common.
func areApart(l ...room) bool {
	l = slices.DeleteFunc(l, func(r room) bool { return len(r) == 0 })
	slices.SortFunc(l, func(a, b room) int { return cmp.Compare(a.from(), b.from()) })
	for i := 1; i < len(l); i++ {
		if l[i].from() < l[i-1].to() {
			return false
		}
	}
	return true
}

// lent is a text in memory that can be written over.
func lent(s string) (string, []byte) {
	b := append(make([]byte, 0, len(s)+1), s...)
	return unsafe.String(unsafe.SliceData(b), len(b)), b
}

// sorted is a text with all that a model may have.
const sorted = "thicket 1\nname model\noutputs 2\nbase 1 2\nfeatures 2\nfeature first\nfeature second\ntrees 1\ntree 1 3\nsplit second in 1 3 7 to 1 2 missing right\nleaf 1\nleaf 2\nend\n"

// Texts that are handed in are not kept: they are written over behind each call, and nothing changes. So it is of names that a map has met already.
func TestTextsAreNotKept(t *testing.T) {
	s, w := New(), New()
	call := func(do func(s *Shop, name, other string) api.Errno, other string) {
		t.Helper()
		name, b := lent("model")
		more, c := lent(other)
		if why := do(s, name, more); why != api.OK {
			t.Error("a call is refused:", why)
		}
		if string(b) != "model" || string(c) != other {
			t.Error("29.8: what is handed in was changed")
		}
		for i := range b {
			b[i] = '?'
		}
		for i := range c {
			c[i] = '?'
		}
		do(w, "model", other)
		if state(s) != state(w) || s.Journal() != w.Journal() {
			t.Errorf("29.8: what is handed in is kept: %q, not %q", s.Journal(), w.Journal())
		}
	}
	put := func(s *Shop, name, text string) api.Errno { _, why, _ := s.Put(name, text); return why }
	call(put, sorted)
	call(put, small)
	call(put, sorted)
	call(func(s *Shop, name, key string) api.Errno { _, why := s.Route(name, key); return why }, "some key")
	call(func(s *Shop, name, key string) api.Errno {
		_, _, why := s.Score(name, key, []float64{1, 2})
		return why
	}, "some key")
	call(func(s *Shop, name, key string) api.Errno {
		_, _, why := s.Scores(name, []string{key, key}, [][]float64{{1, 2}, {3, 4}}, 2)
		return why
	}, "some key")
	call(func(s *Shop, name, _ string) api.Errno { return s.Pin(name, 1) }, "")
	call(func(s *Shop, name, _ string) api.Errno { return s.Try(name, 2, 500) }, "")
	call(func(s *Shop, name, _ string) api.Errno { return s.Withdraw(name, 3) }, "")
	call(func(s *Shop, name, _ string) api.Errno { return s.Unpin(name) }, "")
	call(func(s *Shop, name, _ string) api.Errno { return s.Stop(name) }, "")
	call(put, small)

	journal := w.Journal()
	lines, b := lent(journal)
	again := replayed(t, lines)
	for i := range b {
		b[i] = '\n'
	}
	if again.Journal() != journal {
		t.Error("29.8: what Replay is handed is kept")
	}
	same(t, "what Replay was handed is written over", again, w)
}

// Lists that are answered may be written over, spare room and all.
func TestAnswersAreNew(t *testing.T) {
	s := New()
	for _, name := range []string{"model", "other", "third"} {
		putAll(t, s, name, sorted, small, sorted)
	}
	before := state(s)
	spoil := func() []room {
		names := s.Names()
		versions, _ := s.Versions("model")
		e, _ := s.Model("model", 1)
		sums, _, _ := s.Score("model", "key", []float64{1, 2})
		all, met, _ := s.Scores("model", []string{"a", "b", "c"}, [][]float64{{1, 2}, {3, 4}, {5, 6}}, 2)
		journal, compact := s.Journal(), s.Compact()
		rooms := append(roomsOfEnsemble(e), roomOf(names), roomOf(versions), roomOf(sums), roomOf(all), roomOf(met), textRoom(journal), textRoom(compact))
		for _, name := range names {
			rooms = append(rooms, textRoom(name))
		}
		for _, l := range all {
			rooms = append(rooms, roomOf(l))
		}
		return rooms
	}
	first, second := spoil(), spoil()
	if !areApart(slices.Concat(first, second, []room{textRoom(s.models["model"].versions[0].dump), textRoom(s.models["model"].name)})...) {
		t.Error("29.8: answers share memory")
	}
	kept := bytes.Join(roomsAsBytes(second), nil)
	for _, r := range first {
		clear(r)
	}
	if state(s) != before || !bytes.Equal(bytes.Join(roomsAsBytes(second), nil), kept) {
		t.Error("29.8: an answer is kept, or shares memory with another one")
	}
	for _, r := range second {
		clear(r)
	}
	if state(s) != before {
		t.Error("29.8: an answer is kept")
	}
	// Nor does what is called later change an answer.
	e, _ := s.Model("model", 1)
	was := trees.Copy(e)
	sums, _, _ := s.Score("model", "key", []float64{1, 2})
	values := slices.Clone(sums)
	versions, _ := s.Versions("model")
	putAll(t, s, "model", small)
	s.Score("model", "key", []float64{3, 4})
	s.Withdraw("model", 1)
	if !trees.Same(e, was) || !slices.Equal(sums, values) || !slices.Equal(versions, []int{1, 2, 3}) {
		t.Error("29.8: an answer was changed by a later call")
	}
}

func roomsAsBytes(l []room) [][]byte {
	var out [][]byte
	for _, r := range l {
		out = append(out, bytes.Clone(r))
	}
	return out
}

// spare is a list with room behind it in which something stands.
func spare[T any](l []T, behind T) []T {
	return append(append(make([]T, 0, len(l)+3), l...), behind, behind)[:len(l)]
}

// Vectors and keys stay as they are, and no capacity is seen.
func TestVectorsStay(t *testing.T) {
	s := shopOf(t, small, with("7"))
	is(t, "Try", s.Try("m", 1, 500), api.OK)
	keys, l := many(20)
	want, versions, _ := s.Scores("m", keys, l, 3)
	k, v := spare(slices.Clone(keys), "behind"), spare(slices.Clone(l), []float64{7})
	rooms := []room{roomOf(k), roomOf(v)}
	for i := range v {
		v[i] = spare(v[i], nan)
		rooms = append(rooms, roomOf(v[i]))
	}
	before := bytes.Join(roomsAsBytes(rooms), nil)
	for workers := range 5 {
		sums, met, why := s.Scores("m", k, v, workers)
		if why != api.OK || !slices.EqualFunc(sums, want, slices.Equal) || !slices.Equal(met, versions) {
			t.Error("P3: a capacity is seen")
		}
		noScores(t, s, "m", k[1:], v, workers, api.ErrSize)
		for i := range k {
			isScore(t, s, "m", k[i], v[i], versions[i], want[i]...)
			noScore(t, s, "m", k[i], v[i][:1], api.ErrVector)
		}
	}
	if !bytes.Equal(bytes.Join(roomsAsBytes(rooms), nil), before) {
		t.Error("29.8: what is handed in was changed")
	}
	if !areApart(append(rooms, roomOf(want))...) {
		t.Error("29.8: answers share memory with what is handed in")
	}
}

// What nobody can ask for any more is let go; a journal and what stands need no more than that.
func TestWithdrawnLetsGo(t *testing.T) {
	s := shopOf(t, small, small)
	s.Score("m", "k", []float64{0, 0})
	if s.models["m"].versions[1].engine == nil || s.models["m"].versions[0].engine != nil {
		t.Error("a version is compiled when it is first asked, and not ahead")
	}
	is(t, "Withdraw", s.Withdraw("m", 2), api.OK)
	if s.models["m"].versions[1].engine != nil {
		t.Error("a version that was withdrawn is kept compiled")
	}
	if !strings.Contains(s.Journal(), "withdraw m 2\n") || strings.Count(s.Journal(), "put m 13\n") != 2 {
		t.Error("29.6: the journal of what was withdrawn")
	}
}

// Any texts, names, numbers: no call panics, each ends.
func TestAnything(t *testing.T) {
	r := source()
	s := New()
	odd := func() int { return pick(r, 0, 1, 2, -1, 1000, 1001, -1<<63, 1<<63-1, r.IntN(5)) }
	word := func() string {
		b := make([]byte, r.IntN(4))
		for i := range b {
			b[i] = byte(r.IntN(256))
		}
		return pick(r, "m", "m", "", string(b))
	}
	for range 3000 {
		name, body := word(), []byte(pick(r, small, wide, sorted, loose))
		if r.IntN(2) == 0 {
			body[r.IntN(len(body))] = byte(r.IntN(256))
		}
		_, why, fault := s.Put(name, string(body))
		if _, no, at := text.Parse(string(body)); isName.MatchString(name) && (why != no || fault != at) {
			t.Fatal("29.1: Put:", why, fault, no, at)
		}
		s.Withdraw(word(), odd())
		s.Pin(word(), odd())
		s.Unpin(word())
		s.Try(word(), odd(), odd())
		s.Stop(word())
		s.Model(word(), odd())
		s.Digest(word(), odd())
		keys, l := make([]string, r.IntN(4)), make([][]float64, r.IntN(4))
		for i := range l {
			l[i] = make([]float64, r.IntN(4))
		}
		s.Scores(word(), keys, l, odd())
		if r.IntN(100) == 0 {
			same(t, "anything", replayed(t, s.Journal()), s)
			s = New()
		}
	}
}

package foreign

import (
	"math/rand/v2"
	"reflect"
	"slices"
	"strings"
	"testing"
	"unsafe"

	"thicket/api"
	"thicket/rules"
	"thicket/trees"
)

// spoiled has another word, one more or one fewer, another key, or its rows in another order: this may be a fault or not.
func spoiled(r *rand.Rand, l []string) []string {
	l = slices.Clone(l)
	i := r.IntN(len(l))
	key, value, isKey := strings.Cut(l[i], "=")
	words := strings.Fields(value)
	any := strings.Fields("0 1 2 3 -1 -2 -3 01 4 5 7 8 9 10 11 12 16 64 65 4097 4294967295 4294967296 9999999999 99999999999 x f0 nan inf -inf 0.5 -0 1e99 +1 0x1p3 = 1e-400")[r.IntN(36)]
	if near := wordsNear(key); len(near) > 0 && r.IntN(4) > 0 {
		any = near[r.IntN(len(near))]
	}
	switch at := r.IntN(len(words) + 1); r.IntN(12) {
	case 0:
		words = slices.Insert(words, at, any)
	case 1, 2, 3, 4:
		if at < len(words) {
			words[at] = any
		}
	case 5:
		if at < len(words) {
			words = slices.Delete(words, at, at+1)
		}
	case 6:
		j := r.IntN(len(l))
		l[i], l[j] = l[j], l[i]
		return l
	case 7:
		return slices.Delete(l, i, i+1)
	case 8:
		return slices.Insert(l, i, l[r.IntN(len(l))])
	case 9:
		keys := slices.Concat(headKeys, treeKeys, []string{"tree", "end of trees", "", "x", "version"})
		key = keys[r.IntN(len(keys))]
	case 10:
		r.Shuffle(len(words), func(i, j int) { words[i], words[j] = words[j], words[i] })
	case 11:
		if len(words) > 1 {
			words[r.IntN(len(words))] = words[r.IntN(len(words))]
		}
	}
	if l[i] = key; isKey || r.IntN(8) == 0 {
		l[i] += "=" + strings.Join(words, " ")
	}
	return l
}

// wordsNear are words that may well stand at a key.
func wordsNear(key string) []string {
	switch key {
	case "leaf_value":
		return strings.Fields("0 -1 1e99 -1e99 1e13 4611686018427.387904 -4611686018427.387904 2305843009213.693952 4611686018427.387903 x 0.0000005")
	case "decision_type":
		return strings.Fields("0 1 2 3 4 5 6 7 8 9 10 11 12 13 14 15")
	case "left_child", "right_child":
		return strings.Fields("0 1 2 3 -1 -2 -3 -4")
	case "threshold":
		return strings.Fields("0 1 2 -0 inf -inf nan 0.5")
	case "cat_threshold":
		return strings.Fields("0 1 2 4294967295 4294967296")
	case "cat_boundaries":
		return strings.Fields("0 1 2 3 33")
	}
	return nil
}

func TestAnyTexts(t *testing.T) {
	r := source()
	seen := make(map[api.Errno]int)
	for range 15000 {
		l := writeByWords(someForest(r))
		if r.IntN(4) == 0 {
			l = wide()
		}
		for range r.IntN(4) {
			if len(l) > 0 {
				l = spoiled(r, l)
			}
		}
		s := strings.Join(l, []string{"\n", "\r\n", "\r"}[r.IntN(3)])
		why := judgedByWords(t, "any text", s)
		seen[why]++
		if why != api.OK {
			continue
		}
		e, _, _ := Read(s, "m")
		if !rules.Valid(e) {
			t.Fatalf("11.6: %q: %s", s, rules.Say(rules.Check(e)))
		}
		w, why := Write(e)
		if why != api.OK {
			t.Fatalf("11.4: %q: %d", s, why)
		}
		taken(t, "11.4: any text", w, e)
	}
	for _, why := range []api.Errno{api.OK, api.ErrForeign, api.ErrCannot, api.ErrFixed, api.ErrBig, api.ErrModel} {
		if seen[why] < 10 {
			t.Error("too few texts have the error", why, seen)
		}
	}
}

// Whatever the bytes are, a call answers.
func TestAnyBytes(t *testing.T) {
	r := source()
	for range 10000 {
		b := []byte(joined(wide()))
		for range 1 + r.IntN(4) {
			b[r.IntN(len(b))] = []byte{byte(r.IntN(256)), ' ', '=', '\n', '\r', '-', '0', '9'}[r.IntN(8)]
		}
		if r.IntN(4) == 0 {
			b = b[:r.IntN(len(b))]
		}
		judgedByWords(t, "any bytes", string(b))
	}
	for _, s := range []string{"\x00", "\xff\xfe", "\n\n\n", " ", "=", "\r", "tree\n=", "tree\r\rtree", "tree\nTree=\nTree=\nend of trees", strings.Repeat("tree\n", 3), strings.Repeat("=", 1<<20), "tree\n" + strings.Repeat("Tree=0\n", 1000) + "end of trees", "tree\nend of trees\nx", "end of trees", "end of trees\ntree"} {
		judgedByWords(t, "odd bytes", s)
	}
}

// Every text that ends too early is told behind its last row, whatever that is.
func TestEarlyEnds(t *testing.T) {
	l := wide()
	for n := range l {
		for behind, more := range map[string]int{"": 0, "\n": 1, "\n\r\n": 2, " \t": 1, "\r\r  ": 3} {
			s := ""
			if n > 0 {
				s = joined(l[:n])
			}
			refused(t, "too few rows", s+behind, api.ErrForeign, n+more+1)
		}
		if n > 0 {
			refused(t, "a last row without its end", strings.Join(l[:n], "\r\n"), api.ErrForeign, n+1)
		}
	}
}

// Write takes any ensemble that is put together by hand.
func TestWriteOfAnyEnsembles(t *testing.T) {
	r := source()
	for range 5000 {
		e := someForest(r)
		for range 1 + r.IntN(3) {
			spoilModel(r, &e)
		}
		s, why := Write(e)
		want := api.OK
		if !rules.Valid(e) {
			want = api.ErrModel
		} else if !saidByWords(e) {
			want = api.ErrCannot
		}
		if why != want || (s == "") != (why != api.OK) {
			t.Fatalf("11.2: %v: %q, %d, not %d", e, s, why, want)
		}
	}
}

func spoilModel(r *rand.Rand, e *api.Ensemble) {
	switch r.IntN(6) {
	case 0:
		e.Base = append(e.Base, 1)
		e.Base = e.Base[:max(0, e.Outputs)]
	case 1:
		e.Base = slices.Clone(e.Base)
		if len(e.Base) > 0 {
			e.Base[r.IntN(len(e.Base))] = int64(r.IntN(3) - 1)
		}
	case 2:
		e.Outputs = r.IntN(4)
		e.Base = make([]int64, e.Outputs)
	}
	if len(e.Trees) == 0 {
		return
	}
	g := &e.Trees[r.IntN(len(e.Trees))]
	n := &g.Nodes[r.IntN(len(g.Nodes))]
	switch r.IntN(8) {
	case 0:
		g.Output = r.IntN(3)
	case 1:
		n.Missing = api.Side(r.IntN(4))
	case 2:
		n.Cats = []int{r.IntN(3), 3 + r.IntN(2)}
	case 3:
		n.Left = r.IntN(len(g.Nodes) + 1)
	case 4:
		n.Feature = r.IntN(5) - 1
	case 5:
		n.Kind = api.NodeKind(r.IntN(5))
	}
}

func saidByWords(e api.Ensemble) bool {
	for _, v := range e.Base {
		if v != 0 {
			return false
		}
	}
	for k, g := range e.Trees {
		for _, n := range g.Nodes {
			if n.Kind == api.NodeCats && n.Missing == left && !slices.Contains(n.Cats, 0) {
				return false
			}
		}
		if (k-g.Output)%e.Outputs != 0 {
			return false
		}
	}
	return true
}

// room is where memory begins and ends, spare room included.
type room struct{ from, to uintptr }

func roomOf[T any](l []T) room {
	var one T
	from := uintptr(unsafe.Pointer(unsafe.SliceData(l)))
	return room{from, from + uintptr(cap(l))*unsafe.Sizeof(one)}
}

func roomOfText(s string) room {
	from := uintptr(unsafe.Pointer(unsafe.StringData(s)))
	return room{from, from + uintptr(len(s))}
}

func roomsOf(e api.Ensemble) []room {
	l := []room{roomOfText(e.Name), roomOf(e.Features), roomOf(e.Base), roomOf(e.Trees)}
	for _, s := range e.Features {
		l = append(l, roomOfText(s))
	}
	for _, t := range e.Trees {
		l = append(l, roomOf(t.Nodes))
		for _, n := range t.Nodes {
			l = append(l, roomOf(n.Cats))
		}
	}
	return l
}

// apart tells whether no two rooms have a byte in common.
func apart(l ...room) bool {
	l = slices.DeleteFunc(l, func(r room) bool { return r.from == r.to })
	slices.SortFunc(l, func(a, b room) int {
		if a.from < b.from {
			return -1
		}
		return 1
	})
	for i := 1; i < len(l); i++ {
		if l[i].from < l[i-1].to {
			return false
		}
	}
	return true
}

func TestMemory(t *testing.T) {
	r := source()
	for range 200 {
		e := someForest(r)
		e.Name = strings.Clone("model")
		for i := range e.Features {
			e.Features[i] = strings.Clone(e.Features[i])
		}
		before := trees.Copy(e)
		s, _ := Write(e)
		if !trees.Same(e, before) || !apart(append(roomsOf(e), roomOfText(s))...) {
			t.Fatal("11.3: Write changes or shares what is handed in")
		}
		name := strings.Clone("model")
		a, _, _ := Read(s, name)
		b, _, _ := Read(s, name)
		w, _ := Write(e)
		if !apart(slices.Concat(roomsOf(a), roomsOf(b), []room{roomOfText(s), roomOfText(w), roomOfText(name)})...) {
			t.Fatal("11.3: answers share memory")
		}
		spoilAll(&a)
		if m, _ := trees.Model(e); !trees.Same(b, m) {
			t.Fatal("11.3: a change of one answer is seen in another one")
		}
		if c, _, _ := Read(s, name); !reflect.DeepEqual(b, c) || w != s {
			t.Fatal("11.3: an answer hangs on the calls ahead")
		}
	}
}

// spoilAll writes into all memory of an ensemble, spare room included.
func spoilAll(e *api.Ensemble) {
	for _, g := range e.Trees {
		for _, n := range g.Nodes {
			fill(n.Cats, 7)
		}
		fill(g.Nodes, leafOf(7))
	}
	fill(e.Trees, treeOf(7))
	fill(e.Features, "spoiled")
	fill(e.Base, 7)
}

func fill[T any](l []T, v T) {
	l = l[:cap(l)]
	for i := range l {
		l[i] = v
	}
}

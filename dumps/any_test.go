package dumps

import (
	other "encoding/json"
	"math/rand/v2"
	"reflect"
	"slices"
	"strings"
	"testing"
	"unsafe"

	"thicket/api"
	"thicket/rules"
	"thicket/trees"
)

// spoiled has a value put in the place of another one, a name more or less, items in another order: this may be a fault or not.
func spoiled(r *rand.Rand, s string) string {
	v := parsed([]byte(s))
	// All lists and objects, so that each is as likely as another one.
	var all []any
	var gather func(v any)
	gather = func(v any) {
		switch x := v.(type) {
		case []any:
			all = append(all, v)
			for _, item := range x {
				gather(item)
			}
		case map[string]any:
			all = append(all, v)
			names := keysOf(x)
			for _, name := range names {
				gather(x[name])
			}
		}
	}
	gather(v)
	if len(all) == 0 {
		return s
	}
	switch x := all[r.IntN(len(all))].(type) {
	case []any:
		if len(x) == 0 {
			break
		}
		switch i, j := r.IntN(len(x)), r.IntN(len(x)); r.IntN(3) {
		case 0:
			x[i], x[j] = x[j], x[i]
		case 1:
			x[i] = someValue(r)
		case 2:
			x[i] = x[j]
		}
	case map[string]any:
		names := keysOf(x)
		if len(names) == 0 {
			break
		}
		name := names[r.IntN(len(names))]
		switch told := strings.Fields("nodeid leaf split split_condition yes no missing children"); r.IntN(6) {
		case 0:
			delete(x, name)
		case 1:
			x[told[r.IntN(len(told))]] = someValue(r)
		case 2:
			x[told[r.IntN(len(told))]] = x[name]
		default:
			x[name] = near(r, name)
		}
	}
	b, _ := other.Marshal(v)
	return string(b)
}

func keysOf(m map[string]any) []string {
	var l []string
	for name := range m {
		l = append(l, name)
	}
	slices.Sort(l)
	return l
}

func someValue(r *rand.Rand) any {
	return []any{nil, true, "x", "f0", other.Number("0"), other.Number("1"), other.Number("2"), other.Number("-1"), other.Number("1.5"), other.Number("1e400"), other.Number("-1e400"), other.Number("2147483648"), []any{}, []any{other.Number("1")}, []any{other.Number("1"), other.Number("3")}, map[string]any{}, map[string]any{"nodeid": other.Number("77"), "leaf": other.Number("1")}}[r.IntN(17)]
}

// near is a value that may well stand at a name.
func near(r *rand.Rand, name string) any {
	switch name {
	case "nodeid", "yes", "no", "missing":
		return other.Number([]string{"0", "1", "2", "3", "4", "5", "2147483647", "2147483648", "1.0"}[r.IntN(9)])
	case "leaf":
		return other.Number([]string{"0", "1e20", "4611686018427.387904", "4611686018427.387903", "-1e-7", "1e-999999999999"}[r.IntN(6)])
	case "split":
		return []string{"f0", "11", "-2", "x"}[r.IntN(4)]
	case "split_condition":
		if r.IntN(2) == 0 {
			return []any{other.Number("0"), other.Number([]string{"0", "1", "1023", "1024"}[r.IntN(4)])}
		}
		return other.Number([]string{"0", "-0", "1e400", "-1e400", "5e-324"}[r.IntN(5)])
	}
	return someValue(r)
}

func TestAnyDumps(t *testing.T) {
	r := source()
	seen := make(map[api.Errno]int)
	for range 8000 {
		e := someForest(r)
		s := dumpByWords(e)
		for range r.IntN(4) {
			s = spoiled(r, s)
		}
		if r.IntN(16) == 0 {
			e.Outputs = r.IntN(4) - 1
		}
		why := judgedByWords(t, "any dump", s, e)
		seen[why]++
		if why == api.OK {
			if o, _, _ := Read([]byte(s), e); !rules.Valid(o) {
				t.Fatalf("P12.6: %s: %s", s, rules.Say(rules.Check(o)))
			}
		}
	}
	for _, why := range []api.Errno{api.OK, api.ErrDump, api.ErrTwin, api.ErrBig, api.ErrModel} {
		if seen[why] < 10 {
			t.Error("too few dumps have the error", why, seen)
		}
	}
}

// Whatever the bytes are, a call answers.
func TestAnyBytes(t *testing.T) {
	r := source()
	for range 10000 {
		b := []byte(dumpOf().text())
		for range 1 + r.IntN(3) {
			b[r.IntN(len(b))] = []byte{byte(r.IntN(256)), ',', '"', '[', '}', '-', '0', '9'}[r.IntN(8)]
		}
		if r.IntN(4) == 0 {
			b = b[:r.IntN(len(b))]
		}
		judgedByWords(t, "any bytes", string(b), headOf())
	}
}

// room is where memory begins and ends, spare room included.
type room struct{ from, to uintptr }

func roomOf[T any](l []T) room {
	var one T
	from := uintptr(unsafe.Pointer(unsafe.SliceData(l)))
	return room{from, from + uintptr(cap(l))*unsafe.Sizeof(one)}
}

func roomOfText(s string) room {
	from := uintptr(unsafe.Pointer(unsafe.StringData(s)))
	return room{from, from + uintptr(len(s))}
}

func roomsOf(e api.Ensemble) []room {
	l := []room{roomOfText(e.Name), roomOf(e.Features), roomOf(e.Base), roomOf(e.Trees)}
	for _, s := range e.Features {
		l = append(l, roomOfText(s))
	}
	for _, t := range e.Trees {
		l = append(l, roomOf(t.Nodes))
		for _, n := range t.Nodes {
			l = append(l, roomOf(n.Cats))
		}
	}
	return l
}

// apart tells whether no two rooms have a byte in common.
func apart(l ...room) bool {
	l = slices.DeleteFunc(l, func(r room) bool { return r.from == r.to })
	slices.SortFunc(l, func(a, b room) int {
		if a.from < b.from {
			return -1
		}
		return 1
	})
	for i := 1; i < len(l); i++ {
		if l[i].from < l[i-1].to {
			return false
		}
	}
	return true
}

func TestMemory(t *testing.T) {
	r := source()
	for range 200 {
		e := someForest(r)
		e.Name = strings.Clone("model")
		for i := range e.Features {
			e.Features[i] = strings.Clone(e.Features[i])
		}
		before := trees.Copy(e)
		b, _, _ := Write(e)
		w, _, _ := Write(e)
		if !trees.Same(e, before) || !apart(append(roomsOf(e), roomOf(b), roomOf(w))...) {
			t.Fatal("P12.3: Write changes or shares what is handed in")
		}
		was := slices.Clone(b)
		a, _, _ := Read(b, e)
		o, _, _ := Read(b, e)
		if !trees.Same(e, before) || !slices.Equal(b, was) || !apart(slices.Concat(roomsOf(a), roomsOf(o), roomsOf(e), []room{roomOf(b), roomOf(w)})...) {
			t.Fatal("P12.3: Read changes or shares what is handed in, or its answers share memory")
		}
		spoilAll(&a)
		if !trees.Same(o, backOf(e)) {
			t.Fatal("P12.3: a change of one answer is seen in another one")
		}
		if c, _, _ := Read(b, e); !reflect.DeepEqual(o, c) || !slices.Equal(b, w) {
			t.Fatal("P12.3: an answer hangs on the calls ahead")
		}
		fill(b, 'x')
		if !trees.Same(o, backOf(e)) {
			t.Fatal("P12.3: what is handed in is kept")
		}
	}
}

// spoilAll writes into all memory of an ensemble, spare room included.
func spoilAll(e *api.Ensemble) {
	for _, g := range e.Trees {
		for _, n := range g.Nodes {
			fill(n.Cats, 7)
		}
		fill(g.Nodes, leafOf(7))
	}
	fill(e.Trees, treeOf(7))
	fill(e.Features, "spoiled")
	fill(e.Base, 7)
}

func fill[T any](l []T, v T) {
	l = l[:cap(l)]
	for i := range l {
		l[i] = v
	}
}

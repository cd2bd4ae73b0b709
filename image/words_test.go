package image

import (
	"bytes"
	"encoding/binary"
	"hash/fnv"
	"math"
	"math/big"
	"math/rand/v2"
	"slices"
	"sort"
	"testing"

	"thicket/api"
	"thicket/blocks"
	"thicket/lanes"
	"thicket/quick"
	"thicket/trees"
)

// A second opinion, from the chapter's words.

// sumOf is the sum as the library has it.
func sumOf(b []byte) uint64 {
	h := fnv.New64a()
	h.Write(b)
	return h.Sum64()
}

func sumByWords(b []byte) uint64 {
	two64 := new(big.Int).Lsh(big.NewInt(1), 64)
	sum, _ := new(big.Int).SetString("14695981039346656037", 10)
	for _, c := range b {
		sum.Xor(sum, big.NewInt(int64(c)))
		sum.Mul(sum, big.NewInt(1099511628211))
		sum.Mod(sum, two64)
	}
	return sum.Uint64()
}

// encodeByWords is an image without its sum, of any form whose counts are not below nought.
func encodeByWords(f api.Form) []byte {
	b := []byte{0x54, 0x48, 0x4b, 0x31}
	count := func(n int) { b = binary.AppendUvarint(b, uint64(n)) }
	number := func(v int64) { b = binary.AppendVarint(b, v) }
	tail := func(c api.Cut, lost []api.Cut) {
		count(c.Tree)
		count(c.From)
		count(c.To)
		mark := byte(0)
		if slices.ContainsFunc(lost, func(d api.Cut) bool { return sameCuts(c, d) }) {
			mark = 1
		}
		b = append(b, mark)
	}
	count(f.Features)
	count(f.Outputs)
	for _, v := range f.Base {
		number(v)
	}
	count(len(f.Blocks))
	for _, one := range f.Blocks {
		count(len(one.Leaves))
		for i, leaves := range one.Leaves {
			count(one.Outputs[i])
			count(leaves)
			for _, v := range one.Values[i] {
				number(v)
			}
		}
		count(len(one.Lists))
		for _, l := range one.Lists {
			count(l.Feature)
			count(len(l.Numbers))
			for _, c := range l.Numbers {
				b = binary.BigEndian.AppendUint64(b, math.Float64bits(c.Threshold))
				tail(c, l.Lost)
			}
			count(len(l.Cats))
			for _, c := range l.Cats {
				count(len(c.Cats))
				for i, v := range c.Cats {
					if i == 0 {
						count(v)
					} else {
						count(v - c.Cats[i-1])
					}
				}
				tail(c, l.Lost)
			}
		}
	}
	return b
}

func sameCuts(a, b api.Cut) bool {
	return math.Float64bits(a.Threshold) == math.Float64bits(b.Threshold) && slices.Equal(a.Cats, b.Cats) && a.Tree == b.Tree && a.From == b.From && a.To == b.To
}

// fault is what a reading by words gives up with.
type fault struct {
	why api.Errno
	at  int
}

// words reads by words; what is wrong is told by panic.
type words struct {
	b  []byte
	at int
}

func (w *words) fail(at int) { panic(fault{api.ErrImage, at}) }

// natural is whole, without a needless byte; its bytes end at the first one below 128.
func (w *words) natural(least *big.Int) *big.Int {
	from := w.at
	n := slices.IndexFunc(w.b[from:], func(c byte) bool { return c < 128 })
	if n < 0 || n > 0 && w.b[from+n] == 0 {
		w.fail(from)
	}
	v := new(big.Int)
	for i := n; i >= 0; i-- {
		v.Lsh(v, 7)
		v.Add(v, big.NewInt(int64(w.b[from+i]%128)))
	}
	if v.Cmp(least) >= 0 {
		w.fail(from)
	}
	w.at += n + 1
	return v
}

func (w *words) count() int {
	return int(w.natural(new(big.Int).Add(new(big.Int).Lsh(big.NewInt(1), 53), big.NewInt(1))).Int64())
}

func (w *words) things() int {
	from := w.at
	n := w.count()
	if n > len(w.b[w.at:]) {
		w.fail(from)
	}
	return n
}

func (w *words) number() int64 {
	v := w.natural(new(big.Int).Lsh(big.NewInt(1), 64))
	half, odd := new(big.Int).DivMod(v, big.NewInt(2), new(big.Int))
	if odd.Sign() != 0 {
		half.Neg(half.Add(half, big.NewInt(1)))
	}
	return half.Int64()
}

func (w *words) threshold() float64 {
	if len(w.b)-w.at < 8 {
		w.fail(w.at)
	}
	w.at += 8
	return math.Float64frombits(binary.BigEndian.Uint64(w.b[w.at-8 : w.at]))
}

// tail puts a cut's tail to it, and the cut to those that are lost.
func (w *words) tail(c api.Cut, l *api.List) api.Cut {
	c.Tree = w.count()
	c.From = w.count()
	c.To = w.count()
	if w.at >= len(w.b) || w.b[w.at] > 1 {
		w.fail(w.at)
	}
	if w.b[w.at] == 1 {
		l.Lost = append(l.Lost, c)
	}
	w.at++
	return c
}

func (w *words) list() api.List {
	l := api.List{Feature: w.count()}
	for range w.things() {
		v := w.threshold()
		l.Numbers = append(l.Numbers, w.tail(api.Cut{Threshold: v}, &l))
	}
	for range w.things() {
		var cats []int
		for i := range w.things() {
			c := w.count()
			if i > 0 {
				c = min(c+cats[i-1], 1<<60)
			}
			cats = append(cats, c)
		}
		l.Cats = append(l.Cats, w.tail(api.Cut{Cats: cats}, &l))
	}
	sort.SliceStable(l.Lost, func(i, k int) bool { // from the last key to the first
		a, b := l.Lost[i], l.Lost[k]
		if a.Tree != b.Tree {
			return a.Tree < b.Tree
		}
		return a.From < b.From || a.From == b.From && a.To > b.To
	})
	return l
}

func (w *words) form() api.Form {
	f := api.Form{Features: w.count()}
	f.Outputs = w.count()
	for range f.Outputs {
		f.Base = append(f.Base, w.number())
	}
	first := 0
	for range w.things() {
		b := api.Block{First: first}
		for range w.things() {
			first++
			b.Outputs = append(b.Outputs, w.count())
			n := w.things()
			b.Leaves = append(b.Leaves, n)
			var values []int64
			for range n {
				values = append(values, w.number())
			}
			b.Values = append(b.Values, values)
		}
		for range w.things() {
			b.Lists = append(b.Lists, w.list())
		}
		f.Blocks = append(f.Blocks, b)
	}
	return f
}

func decodeByWords(b []byte) (f api.Form, why api.Errno, at int) {
	defer func() {
		switch x := recover().(type) {
		case nil:
		case fault:
			f, why, at = api.Form{}, x.why, x.at
		default:
			panic(x)
		}
	}()
	for i, c := range []byte{0x54, 0x48, 0x4b, 0x31} {
		if i >= len(b) || b[i] != c {
			return f, api.ErrImage, i
		}
	}
	if len(b) < 12 {
		return f, api.ErrImage, len(b)
	}
	end := len(b) - 8
	if binary.BigEndian.Uint64(b[end:]) != sumOf(b[:end]) {
		return f, api.ErrSum, end
	}
	w := &words{b: b[:end], at: 4}
	f = w.form()
	if w.at < end {
		w.fail(w.at)
	}
	if no, _ := blocks.Check(f); no != api.OK {
		return api.Form{}, api.ErrForm, 0
	}
	return f, api.OK, 0
}

// agrees holds Decode to the words.
func agrees(t *testing.T, b []byte) {
	t.Helper()
	want, why, at := decodeByWords(b)
	if why == api.OK {
		isDecoded(t, "by words", b, want)
	} else {
		isFaulty(t, "by words", b, why, at)
	}
	if t.Failed() {
		t.FailNow()
	}
}

// someTree has so many leaves, its nodes numbered at random; it asks for the features below features.
func someTree(r *rand.Rand, leaves, features int) api.Tree {
	nodes := []api.Node{leafOf(r.Int64N(2000) - 1000)}
	for len(nodes) < 2*leaves-1 {
		i := r.IntN(len(nodes))
		if nodes[i].Kind != api.NodeLeaf {
			continue
		}
		n := someSplit(r, features)
		n.Left, n.Right = len(nodes), len(nodes)+1
		if r.IntN(2) == 0 {
			n.Left, n.Right = n.Right, n.Left
		}
		nodes[i] = n
		nodes = append(nodes, leafOf(r.Int64N(2000)-1000), leafOf(int64(r.Uint64())>>r.IntN(64)))
	}
	return api.Tree{Output: r.IntN(3), Nodes: nodes}
}

// someSplit is an inner node, its Left and Right not yet told.
func someSplit(r *rand.Rand, features int) api.Node {
	missing := []api.Side{left, right}[r.IntN(2)]
	feature := r.IntN(features)
	if r.IntN(3) > 0 {
		return numberOf(feature, []float64{0, minus0, 0.5, -0.5, 1, 2, 3, endless, -endless, math.MaxFloat64, 5e-324}[r.IntN(11)], missing, 0, 0)
	}
	var cats []int
	for _, c := range []int{0, 1, 2, 3, 7, 200, 1023} {
		if r.IntN(2) == 0 {
			cats = append(cats, c)
		}
	}
	if len(cats) == 0 {
		cats = []int{5}
	}
	return catsOf(feature, missing, 0, 0, cats...)
}

// someEnsemble has so many trees, three outputs and features.
func someEnsemble(r *rand.Rand, many int) api.Ensemble {
	e := api.Ensemble{Name: "m", Features: make([]string, 3), Outputs: 3, Base: []int64{int64(r.Uint64()), -5, 0}}
	for range many {
		e.Trees = append(e.Trees, someTree(r, 1+r.IntN(8), 3))
	}
	return e
}

// someForm is in blocks of any lengths.
func someForm(t *testing.T, r *rand.Rand, many int) (api.Ensemble, api.Form) {
	t.Helper()
	e := someEnsemble(r, many)
	var l []api.Run
	for from := 0; from < many; {
		to := from + 1 + r.IntN(many-from)
		l = append(l, api.Run{From: from, To: to})
		from = to
	}
	f, why := blocks.Of(e, l)
	if why != api.OK {
		t.Fatal(why)
	}
	return e, f
}

// Any form is written as the words say, and comes back; so do the trees, and the scores.
func TestAnyForms(t *testing.T) {
	r := source()
	for range 1500 {
		e, f := someForm(t, r, r.IntN(7))
		b := sealed(encodeByWords(f))
		isImage(t, "any form", f, b)
		agrees(t, b)
		g, _, _ := Decode(b)
		m, _ := trees.Model(e)
		if l, why := blocks.Back(g); why != api.OK || !slices.EqualFunc(l, m.Trees, trees.Alike) {
			t.Fatalf("P11: %d, %v, not %v", why, l, m.Trees)
		}
		q, _ := quick.New(g)
		s, _ := lanes.New(g)
		var vectors [][]float64
		for range 9 {
			vectors = append(vectors, someVector(r))
		}
		all, _, _ := s.Score(vectors)
		for i, x := range vectors {
			want, _ := trees.Score(e, x)
			if l, why := q.Score(x); why != api.OK || !slices.Equal(l, want) || !slices.Equal(all[i], want) {
				t.Fatalf("P5: %v of %v: %v and %v, not %v", e, x, l, all[i], want)
			}
		}
	}
}

func someVector(r *rand.Rand) []float64 {
	x := make([]float64, 3)
	for i := range x {
		x[i] = []float64{nan, 0, minus0, 0.5, -0.5, 1, 2, 3, 7, 200, 1023, 1024, 1.5, endless, -endless, math.MaxFloat64, 5e-324, -5e-324}[r.IntN(18)]
	}
	return x
}

// An image of which a byte is another is not taken; with its sum made right it is what the words say.
func TestEachByteTurned(t *testing.T) {
	for _, f := range []api.Form{compiled(t, many(), 3), compiled(t, many(), 1), {Features: 1, Outputs: 1, Base: []int64{0}}} {
		b, _ := Encode(f)
		for i := range b {
			for v := range 256 {
				c := bytes.Clone(b)
				if c[i] == byte(v) {
					continue
				}
				c[i] = byte(v)
				_, why, at := Decode(c)
				switch {
				case i < 4 && (why != api.ErrImage || at != i), i >= 4 && (why != api.ErrSum || at != len(b)-8):
					t.Fatalf("21.5: byte %d as %d: %d at %d", i, v, why, at)
				}
				if i < len(b)-8 {
					agrees(t, sealed(c[:len(b)-8]))
				}
			}
		}
	}
}

// An image that is cut short, or has a byte more, is not taken; with its sum made right it is faulty all the same.
func TestEachLength(t *testing.T) {
	for _, f := range []api.Form{compiled(t, many(), 3), compiled(t, many(), 1), {Features: 1, Outputs: 1, Base: []int64{0}}} {
		b, _ := Encode(f)
		for n := range b {
			want, place := api.ErrSum, n-8
			if n < 12 {
				want, place = api.ErrImage, n
			}
			isFaulty(t, "21.5: cut short", b[:n], want, place)
			if n < len(b)-8 && n >= 4 {
				agrees(t, sealed(b[:n]))
				if _, why, _ := Decode(sealed(b[:n])); why != api.ErrImage {
					t.Errorf("21.5: cut short at %d, with its sum: %d", n, why)
				}
			}
		}
		for v := range 256 {
			isFaulty(t, "21.5: a byte more", append(bytes.Clone(b), byte(v)), api.ErrSum, len(b)-7)
			isFaulty(t, "21.2: a byte behind the last block", sealed(append(bytes.Clone(b[:len(b)-8]), byte(v))), api.ErrImage, len(b)-8)
		}
		isFaulty(t, "twice", append(bytes.Clone(b), b...), api.ErrSum, 2*len(b)-8)
		isFaulty(t, "the image within an image", sealed(b), api.ErrImage, len(b)-8)
	}
}

// Images in which a few bytes are set, put in or left out, their sums made right.
func TestSpoiltImages(t *testing.T) {
	r := source()
	taken := 0
	for range 20000 {
		_, f := someForm(t, r, r.IntN(4))
		b := encodeByWords(f)
		for range 1 + r.IntN(2) {
			i := 4 + r.IntN(len(b)-3)
			v := []byte{0, 1, 2, 3, 127, 128, 129, 255, byte(r.Uint32())}[r.IntN(9)]
			switch k := r.IntN(3); {
			case i == len(b) || k == 0:
				b = slices.Insert(b, i, v)
			case k == 1:
				b = slices.Delete(b, i, i+1)
			default:
				b[i] = v
			}
		}
		b = sealed(b)
		agrees(t, b)
		if _, why, _ := Decode(b); why == api.OK {
			taken++
		}
	}
	if taken < 500 {
		t.Error("few of these images are right:", taken)
	}
}

// Any bytes at all.
func TestAnyBytes(t *testing.T) {
	r := source()
	for range 40000 {
		b := []byte("THK1")
		if r.IntN(10) == 0 {
			b = b[:r.IntN(5)]
		}
		for range r.IntN(40) {
			b = append(b, []byte{0, 0, 1, 1, 2, 3, 128, 255, byte(r.Uint32())}[r.IntN(9)])
		}
		if r.IntN(10) > 0 {
			b = sealed(b)
		}
		agrees(t, b)
	}
	for _, n := range []int{0, 1, 8, 12, 1 << 16} {
		for _, v := range []byte{0, 1, 127, 128, 255} {
			l := bytes.Repeat([]byte{v}, n)
			isFaulty(t, "one byte, many times", l, api.ErrImage, 0)
			agrees(t, sealed(append([]byte("THK1"), l...)))
			agrees(t, sealed(append([]byte("THK1\x01\x01\x00"), l...)))
		}
	}
}

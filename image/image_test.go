package image

import (
	"bytes"
	"encoding/hex"
	"fmt"
	"math"
	"math/rand/v2"
	"reflect"
	"slices"
	"strings"
	"testing"

	"thicket/api"
	"thicket/blocks"
)

const (
	left  = api.SideLeft
	right = api.SideRight
)

var (
	nan     = math.NaN()
	endless = math.Inf(1)
	minus0  = math.Copysign(0, -1)
)

func source() *rand.Rand { return rand.New(rand.NewPCG(21, 21)) }

func leafOf(v int64) api.Node { return api.Node{Kind: api.NodeLeaf, Value: v} }

func numberOf(feature int, threshold float64, missing api.Side, l, r int) api.Node {
	return api.Node{Kind: api.NodeNumber, Feature: feature, Threshold: threshold, Missing: missing, Left: l, Right: r}
}

func catsOf(feature int, missing api.Side, l, r int, cats ...int) api.Node {
	return api.Node{Kind: api.NodeCats, Feature: feature, Cats: cats, Missing: missing, Left: l, Right: r}
}

func treeOf(l ...api.Node) api.Tree { return api.Tree{Nodes: l} }

// stump is a tree with one inner node.
func stump(n api.Node) api.Tree {
	n.Left, n.Right = 1, 2
	return treeOf(n, leafOf(10), leafOf(20))
}

func ensemble(features int, l ...api.Tree) api.Ensemble {
	return api.Ensemble{Name: "m", Features: make([]string, features), Outputs: 1, Base: []int64{100}, Trees: l}
}

// many is an ensemble whose nodes are of both kinds, Lost and not, on both sides.
func many() api.Ensemble {
	e := ensemble(3,
		treeOf(numberOf(1, 2, right, 1, 2), leafOf(10), leafOf(20)),
		treeOf(numberOf(1, 1, left, 1, 4), catsOf(0, right, 2, 3, 4), leafOf(1), leafOf(2), leafOf(3)),
		treeOf(numberOf(1, 3, right, 1, 4), catsOf(1, left, 2, 3, 0, 7), leafOf(31), leafOf(32), numberOf(1, 1, right, 5, 6), leafOf(33), leafOf(-34)))
	e.Outputs, e.Base = 2, []int64{100, -5}
	e.Trees[1].Output = 1
	return e
}

// said is all that a form says, as a text: thresholds by their bits, nil and empty lists alike.
func said(f api.Form) string {
	var s strings.Builder
	fmt.Fprintf(&s, "%d features, %d outputs, base %d\n", f.Features, f.Outputs, f.Base)
	for _, b := range f.Blocks {
		fmt.Fprintf(&s, "first %d leaves %d values %d outputs %d\n", b.First, b.Leaves, b.Values, b.Outputs)
		for _, l := range b.Lists {
			fmt.Fprintf(&s, "feature %d\n", l.Feature)
			for k, cuts := range [][]api.Cut{l.Numbers, l.Cats, l.Lost} {
				for _, c := range cuts {
					fmt.Fprintf(&s, "%d: %x %d tree %d, %d to %d\n", k, math.Float64bits(c.Threshold), c.Cats, c.Tree, c.From, c.To)
				}
			}
		}
	}
	return s.String()
}

// compiled is an ensemble's form in blocks of b trees.
func compiled(t *testing.T, e api.Ensemble, b int) api.Form {
	t.Helper()
	f, why := blocks.Compile(e, b)
	if why != api.OK {
		t.Fatalf("Compile: %d", why)
	}
	return f
}

// bytesOf are bytes that are written in hex, with blanks between them.
func bytesOf(s string) []byte {
	b, err := hex.DecodeString(strings.ReplaceAll(s, " ", ""))
	if err != nil {
		panic(err)
	}
	return b
}

// sealed are bytes with their sum behind them.
func sealed(b []byte) []byte {
	b = bytes.Clone(b)
	s := sumOf(b)
	for i := 7; i >= 0; i-- {
		b = append(b, byte(s>>(8*i)))
	}
	return b
}

// framed is an image of what stands between the beginning and the sum, in hex.
func framed(s string) []byte { return sealed(append([]byte("THK1"), bytesOf(s)...)) }

// isImage holds a form to be written as these bytes, and to come back from them.
func isImage(t *testing.T, what string, f api.Form, want []byte) {
	t.Helper()
	b, why := Encode(f)
	if why != api.OK || !bytes.Equal(b, want) {
		t.Errorf("21.1: %s: %d, % x, not % x", what, why, b, want)
	}
	isDecoded(t, what, want, f)
}

// isDecoded holds bytes to be read as a form.
func isDecoded(t *testing.T, what string, b []byte, want api.Form) {
	t.Helper()
	f, why, at := Decode(b)
	if why != api.OK || at != 0 || said(f) != said(want) || !blocks.Same(f, want) {
		t.Errorf("21.2: %s: %d at %d:\n%snot\n%s", what, why, at, said(f), said(want))
	}
	if back, why := Encode(f); why != api.OK || !bytes.Equal(back, b) {
		t.Errorf("21.4: %s: %d, % x, not % x", what, why, back, b)
	}
}

// isFaulty holds bytes to be read as none, with a fault at a place.
func isFaulty(t *testing.T, what string, b []byte, want api.Errno, place int) {
	t.Helper()
	f, why, at := Decode(b)
	if why != want || at != place {
		t.Errorf("21.2: %s: %d at %d, not %d at %d, of % x", what, why, at, want, place, b)
	}
	if !reflect.DeepEqual(f, api.Form{}) {
		t.Errorf("P2: %s: a form beside an error: %s", what, said(f))
	}
}

// isRefused holds a form to be written as nothing.
func isRefused(t *testing.T, what string, f api.Form) {
	t.Helper()
	b, why := Encode(f)
	if why != api.ErrForm {
		t.Errorf("21.1: %s: %d of\n%s", what, why, said(f))
	}
	if b != nil {
		t.Errorf("P2: %s: % x beside an error", what, b)
	}
}

func TestExamples(t *testing.T) {
	if Sum(nil) != 0xcbf29ce484222325 || Sum([]byte("a")) != 0xaf63dc4c8601ec8c {
		t.Error("example 1")
	}
	b, why := Encode(api.Form{Features: 1, Outputs: 1, Base: []int64{0}})
	if why != api.OK || !bytes.Equal(b, framed("01 01 00 00")) || len(b) != 16 {
		t.Fatalf("example 2: %d, % x", why, b)
	}
	isFaulty(t, "example 2", b[:11], api.ErrImage, 11)
	isFaulty(t, "example 2", []byte("THQ"), api.ErrImage, 2)
	b[15]++
	isFaulty(t, "example 3", b, api.ErrSum, 8)
	isFaulty(t, "example 3", framed("01 01 00 05"), api.ErrImage, 7)
	isFaulty(t, "example 4", framed("81 00 01 00 00"), api.ErrImage, 4)
}

func TestSum(t *testing.T) {
	for s, want := range map[string]uint64{"": 0xcbf29ce484222325, "a": 0xaf63dc4c8601ec8c, "b": 0xaf63df4c8601f1a5, "fo": 0x08985907b541d342, "foobar": 0x85944171f73967e8, "\x00": 0xaf63bd4c8601b7df} {
		if Sum([]byte(s)) != want {
			t.Errorf("21.1: Sum(%q) = %x", s, Sum([]byte(s)))
		}
	}
	if Sum([]byte{}) != Sum(nil) {
		t.Error("P1: nil and empty are not alike")
	}
	r := source()
	for range 3000 {
		b := make([]byte, r.IntN(40))
		for i := range b {
			b[i] = byte(r.Uint32())
		}
		sum := Sum(b)
		if sum != sumOf(b) || sum != sumByWords(b) {
			t.Fatalf("21.1: Sum(% x) = %x", b, sum)
		}
		if len(b) > 0 { // differing in one place
			c := bytes.Clone(b)
			c[r.IntN(len(c))] ^= byte(1 + r.IntN(255))
			if Sum(c) == sum {
				t.Fatalf("21.6: one sum of % x and % x", b, c)
			}
		}
	}
}

// The sums of all bytes that differ in one place, at each place of a few bytes.
func TestSumsDiffer(t *testing.T) {
	for _, b := range [][]byte{{0}, {1, 2, 3}, make([]byte, 12), []byte("THK1\x01\x01\x00\x00")} {
		for i := range b {
			seen := map[uint64]byte{}
			for v := range 256 {
				c := bytes.Clone(b)
				c[i] = byte(v)
				if w, ok := seen[Sum(c)]; ok {
					t.Fatalf("21.6: place %d of % x: %d and %d", i, b, v, w)
				}
				seen[Sum(c)] = byte(v)
			}
		}
	}
}

// An image, byte by byte.
func TestWhole(t *testing.T) {
	one := "" +
		"03 02 c8 01 09" + // 3 features, 2 outputs, base 100 and -5
		"01" + // a block
		"03" + // trees: output, leaves, values
		"00 02 14 28" +
		"01 03 02 04 06" +
		"00 04 3e 40 42 43" +
		"02" + // lists
		"00 00 01 01 04 01 00 01 01" + // feature 0, no Numbers, one Cats of one category: 4, tree 1, 0 to 1, lost
		"01 04" + // feature 1, Numbers
		"3f f0 00 00 00 00 00 00 01 00 02 00" +
		"3f f0 00 00 00 00 00 00 02 02 03 01" +
		"40 00 00 00 00 00 00 00 00 00 01 01" +
		"40 08 00 00 00 00 00 00 02 00 02 01" +
		"01 02 00 07 02 00 01 00" // Cats: 0 and 7
	isImage(t, "one block", compiled(t, many(), 3), framed(one))
	three := "" +
		"03 02 c8 01 09 03" +
		"01 00 02 14 28 01" +
		"01 01 40 00 00 00 00 00 00 00 00 00 01 01 00" +
		"01 01 03 02 04 06 02" +
		"00 00 01 01 04 00 00 01 01" +
		"01 01 3f f0 00 00 00 00 00 00 00 00 02 00 00" +
		"01 00 04 3e 40 42 43 01" +
		"01 02 3f f0 00 00 00 00 00 00 00 02 03 01" +
		"40 08 00 00 00 00 00 00 00 00 02 01" +
		"01 02 00 07 00 00 01 00"
	isImage(t, "three blocks", compiled(t, many(), 1), framed(three))
}

// Heads alone, with as little and as much as may be.
func TestHeads(t *testing.T) {
	head := func(features int, base ...int64) api.Form {
		return api.Form{Features: features, Outputs: len(base), Base: base}
	}
	for s, f := range map[string]api.Form{
		"00 01 00 00":                                 head(0, 0),
		"01 01 01 00":                                 head(1, -1),
		"7f 01 02 00":                                 head(127, 1),
		"80 01 01 7e 00":                              head(128, 63),
		"ff 7f 01 7f 00":                              head(16383, -64),
		"80 80 01 01 80 01 00":                        head(16384, 64),
		"80 80 04 01 81 01 00":                        head(65536, -65),
		"01 01 fe ff ff ff ff ff ff ff ff 01 00":      head(1, math.MaxInt64),
		"01 01 ff ff ff ff ff ff ff ff ff 01 00":      head(1, math.MinInt64),
		"01 01 fd ff ff ff ff ff ff ff ff 01 00":      head(1, math.MinInt64+1),
		"01 01 80 80 80 80 80 80 80 80 80 01 00":      head(1, 1<<62),
		"01 01 ff ff ff ff ff ff ff ff 7f 00":         head(1, -(1 << 62)),
		"01 01 80 80 80 80 80 80 80 80 01 00":         head(1, 1<<55),
		"02 03 00 02 01 00":                           head(2, 0, 1, -1),
		"02 40 " + strings.Repeat("0c", 64) + " 00":   head(2, slices.Repeat([]int64{6}, 64)...),
		"02 02 fe ff ff ff ff ff ff ff ff 01 80 0200": head(2, math.MaxInt64, 128),
	} {
		isImage(t, "a head", f, framed(s))
	}
	for what, f := range map[string]api.Form{"nothing": {}, "no outputs": head(1), "features below 0": head(-1, 0), "too many features": head(65537, 0), "too many outputs": head(1, make([]int64, 65)...), "a Base too few": {Features: 1, Outputs: 2, Base: []int64{1}}, "a Base too many": {Features: 1, Outputs: 1, Base: []int64{1, 2}}} {
		isRefused(t, what, f)
	}
}

// Trees of one leaf: a block has trees, but no lists.
func TestLeaves(t *testing.T) {
	e := ensemble(0, treeOf(leafOf(7)), treeOf(leafOf(math.MinInt64)))
	isImage(t, "leaves in one block", compiled(t, e, 2), framed("00 01 c8 01 01 02 00 01 0e 00 01 ff ff ff ff ff ff ff ff ff 01 00"))
	isImage(t, "leaves in two blocks", compiled(t, e, 1), framed("00 01 c8 01 02 01 00 01 0e 00 01 00 01 ff ff ff ff ff ff ff ff ff 01 00"))
	e.Outputs, e.Base = 64, make([]int64, 64)
	e.Trees[0].Output = 63
	isImage(t, "the last output", compiled(t, e, 2), framed("00 40"+strings.Repeat("00", 64)+"01 02 3f 01 0e 00 01 ff ff ff ff ff ff ff ff ff 01 00"))
}

func TestThresholds(t *testing.T) {
	for bits, v := range map[string]float64{
		"00 00 00 00 00 00 00 00": 0, "80 00 00 00 00 00 00 00": minus0, "7f f0 00 00 00 00 00 00": endless, "ff f0 00 00 00 00 00 00": -endless,
		"00 00 00 00 00 00 00 01": 5e-324, "7f ef ff ff ff ff ff ff": math.MaxFloat64, "3f b9 99 99 99 99 99 9a": 0.1, "bf f0 00 00 00 00 00 00": -1,
	} {
		for side, mark := range map[api.Side]string{left: "00", right: "01"} {
			f := compiled(t, ensemble(1, stump(numberOf(0, v, side, 0, 0))), 1)
			isImage(t, fmt.Sprint("threshold ", v), f, framed("01 01 c8 01 01 01 00 02 14 28 01 00 01"+bits+"00 00 01"+mark+"00"))
		}
	}
	// Thresholds that are alike, noughts of both signs: their bits are kept, and the order in which they are Lost.
	e := ensemble(1)
	for i, v := range []float64{1, 0, minus0, -1, minus0, 1, 0, endless, -endless, endless} {
		e.Trees = append(e.Trees, stump(numberOf(0, v, api.Side(1+i%2), 0, 0)))
	}
	f := compiled(t, e, 10)
	isImage(t, "noughts", f, sealed(encodeByWords(f)))
}

func TestCategories(t *testing.T) {
	var all []int
	for c := range api.MaxCats {
		all = append(all, c)
	}
	for _, c := range []struct {
		cats []int
		want string
	}{
		{[]int{0}, "01 00"}, {[]int{1}, "01 01"}, {[]int{127}, "01 7f"}, {[]int{128}, "01 80 01"}, {[]int{1023}, "01 ff 07"},
		{[]int{0, 1023}, "02 00 ff 07"}, {[]int{5, 6, 134, 261}, "04 05 01 80 01 7f"}, {all, "80 08 00" + strings.Repeat("01", 1023)},
	} {
		for side, mark := range map[api.Side]string{left: "00", right: "01"} {
			f := compiled(t, ensemble(1, stump(catsOf(0, side, 0, 0, c.cats...))), 1)
			isImage(t, fmt.Sprint("categories ", len(c.cats)), f, framed("01 01 c8 01 01 01 00 02 14 28 01 00 00 01"+c.want+"00 00 01"+mark))
		}
	}
}

// Counts of several bytes: of trees, leaves, lists and cuts.
func TestCounts(t *testing.T) {
	chain := func(leaves int) api.Tree {
		var l []api.Node
		for i := range leaves - 1 {
			l = append(l, numberOf(i%3, float64(i), api.Side(1+i%2), 2*i+1, 2*i+2), leafOf(int64(i)))
		}
		return treeOf(append(l, leafOf(-9))...)
	}
	for _, n := range []int{127, 128, 129, api.MaxLeaves} {
		f := compiled(t, ensemble(3, chain(n), chain(2)), 2)
		isImage(t, fmt.Sprint("leaves ", n), f, sealed(encodeByWords(f)))
	}
	for _, n := range []int{127, 128, 16383, 16384, api.MaxTrees} {
		e := ensemble(2)
		for i := range n {
			e.Trees = append(e.Trees, treeOf(leafOf(int64(i))))
		}
		e.Trees[n-1] = stump(numberOf(1, 3, right, 0, 0))
		for _, b := range []int{1, n} {
			f := compiled(t, e, b)
			isImage(t, fmt.Sprint("trees ", n), f, sealed(encodeByWords(f)))
		}
	}
	e := ensemble(api.MaxFeatures)
	for i := range 16384 {
		e.Trees = append(e.Trees, stump(numberOf(api.MaxFeatures-1-i, 3, right, 0, 0)))
	}
	f := compiled(t, e, api.MaxTrees)
	isImage(t, "lists", f, sealed(encodeByWords(f)))
}

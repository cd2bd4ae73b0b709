package image

import (
	"bytes"
	"math"
	"slices"
	"strings"
	"testing"

	"thicket/api"
	"thicket/blocks"
)

func TestBeginnings(t *testing.T) {
	isFaulty(t, "no bytes", nil, api.ErrImage, 0)
	isFaulty(t, "no bytes", []byte{}, api.ErrImage, 0)
	good := framed("01 01 00 00")
	for i := range 4 {
		isFaulty(t, "a byte of the beginning missing", good[:i], api.ErrImage, i)
		for v := range 256 {
			b := bytes.Clone(good)
			if b[i] == byte(v) {
				continue
			}
			b[i] = byte(v)
			isFaulty(t, "another byte of the beginning", b, api.ErrImage, i)
			isFaulty(t, "another byte of the beginning, and no more", b[:i+1], api.ErrImage, i)
			isFaulty(t, "another byte of the beginning, with its sum", sealed(b[:8]), api.ErrImage, i)
			b[3] = 'x'
			isFaulty(t, "two other bytes of the beginning", b, api.ErrImage, i)
		}
	}
	for n := 4; n < 12; n++ {
		isFaulty(t, "fewer than twelve bytes", good[:n], api.ErrImage, n)
	}
	isFaulty(t, "twelve bytes, no sum", good[:12], api.ErrSum, 4)
	isFaulty(t, "twelve bytes", framed(""), api.ErrImage, 4)
	isFaulty(t, "thirteen bytes", framed("01"), api.ErrImage, 5)
}

// A wrong sum is told whatever stands within.
func TestSums(t *testing.T) {
	for _, within := range []string{"", "01 01 00 00", "81 00 01 00 00", "01 01 00 05", "01 00 00", "01 01 00 00 00"} {
		b := framed(within)
		for i := len(b) - 8; i < len(b); i++ {
			for bit := range 8 {
				c := bytes.Clone(b)
				c[i] ^= 1 << bit
				isFaulty(t, "a turned sum", c, api.ErrSum, len(b)-8)
			}
		}
		end := len(b) - 8
		turned := append(bytes.Clone(b[:end]), b[end:]...)
		slices.Reverse(turned[end:])
		isFaulty(t, "the lowest byte of the sum first", turned, api.ErrSum, end)
	}
}

// atFeatures and others put a text in the place of an item of an image that is right else.
func atFeatures(s string) []byte { return framed(s + "01 00 00") }

func atOutputs(s string) []byte { return framed("01" + s + "00 00") }

func atBase(s string) []byte { return framed("01 01" + s + "00") }

func atBlocks(s string) []byte { return framed("01 01 00" + s) }

func TestCountsAtFault(t *testing.T) {
	ten := strings.Repeat("80", 9)
	for s, what := range map[string]string{
		"80 00": "a needless byte of 0", "81 00": "a needless byte of 1", "ff 00": "a needless byte of 127", "80 80 00": "two needless bytes", "80 81 00": "a needless byte behind two",
		"81 80 80 80 80 80 80 10": "2^53 + 1", "80 80 80 80 80 80 80 20": "2^54", "ff ff ff ff ff ff ff 1f": "2^54 - 1", "80 80 80 80 80 80 80 80 01": "2^56",
		ten + "01": "2^63", ten + "02": "2^64", ten + "7f": "much more", ten + "80 01": "eleven bytes", ten + "80 00": "eleven bytes, one needless", ten + ten + "01": "nineteen bytes", "ff" + ten + ten + ten + "00": "many bytes",
	} {
		isFaulty(t, "Features: "+what, atFeatures(s), api.ErrImage, 4)
		isFaulty(t, "Outputs: "+what, atOutputs(s), api.ErrImage, 5)
		isFaulty(t, "blocks: "+what, atBlocks(s), api.ErrImage, 7)
	}
	// Up to 2^53 a count is one; that the form is not right is another matter.
	for _, s := range []string{"80 80 80 80 80 80 80 10", "ff ff ff ff ff ff ff 0f", "81 80 04", "81 80 80 01", "80 80 80 80 10"} {
		isFaulty(t, "Features", atFeatures(s), api.ErrForm, 0)
	}
	isFaulty(t, "as many Outputs as a count says", atOutputs("80 80 80 80 80 80 80 10"), api.ErrImage, 15)
	isFaulty(t, "an Output too many", framed("01 02 00"), api.ErrImage, 7)
	isFaulty(t, "no Output", framed("01 00 00"), api.ErrForm, 0)
	isFaulty(t, "65 Outputs", framed("01 41"+strings.Repeat("00", 65)+"00"), api.ErrForm, 0)
	// Not whole: at its first byte, however many there are.
	for _, s := range []string{"80", "ff", "80 80", "ff ff ff", ten, ten + "80", ten + ten} {
		isFaulty(t, "Features not whole", framed(s), api.ErrImage, 4)
		isFaulty(t, "Outputs not whole", framed("01"+s), api.ErrImage, 5)
		isFaulty(t, "a Base not whole", framed("01 01"+s), api.ErrImage, 6)
		isFaulty(t, "blocks not whole", framed("01 01 00"+s), api.ErrImage, 7)
	}
	isFaulty(t, "no Outputs there", framed("01"), api.ErrImage, 5)
	isFaulty(t, "no Base there", framed("01 01"), api.ErrImage, 6)
	isFaulty(t, "no blocks there", framed("01 01 00"), api.ErrImage, 7)
	isDecoded(t, "as it should be", framed("01 01 00 00"), api.Form{Features: 1, Outputs: 1, Base: []int64{0}})
}

func TestNumbersAtFault(t *testing.T) {
	nine := strings.Repeat("ff", 9)
	for s, v := range map[string]int64{"00": 0, "01": -1, "02": 1, "7e": 63, "7f": -64, "80 01": 64, "81 01": -65, nine + "01": math.MinInt64, "fe" + strings.Repeat("ff", 8) + "01": math.MaxInt64, strings.Repeat("80", 9) + "01": 1 << 62, strings.Repeat("80", 7) + "10": 1 << 52, strings.Repeat("80", 7) + "20": 1 << 53, strings.Repeat("ff", 8) + "7f": -(1 << 62)} {
		isDecoded(t, "a number", atBase(s), api.Form{Features: 1, Outputs: 1, Base: []int64{v}})
	}
	for s, what := range map[string]string{
		nine + "02": "2^65 - 1, less", strings.Repeat("80", 9) + "02": "2^64", nine + "03": "2^65 - 1", nine + "7f": "ten bytes", nine + "81 00": "eleven bytes, one needless", nine + "80 01": "eleven bytes", nine + "ff 00": "eleven bytes",
		nine + "81 80 01": "twelve bytes", "80 00": "a needless byte", "81 00": "a needless byte", strings.Repeat("80", 9) + "00": "a needless tenth byte", nine + "00": "a needless tenth byte", nine + "80 00": "a needless eleventh byte",
	} {
		isFaulty(t, "a Base: "+what, atBase(s), api.ErrImage, 6)
		isFaulty(t, "a value: "+what, framed("01 01 00 01 01 00 01"+s+"00"), api.ErrImage, 11)
	}
}

// A list of one cut, so that each of its items has a known place.
const (
	ahead      = "01 01 00 01 01 00 02 14 28 01 00" // up to the list's Feature
	numberLost = "01 3f f0 00 00 00 00 00 00 00 00 01 01"
	catsLost   = "01 02 04 05 00 00 01 01"
)

func TestItemsOfLists(t *testing.T) {
	one := compiled(t, ensemble(1, stump(numberOf(0, 1, right, 0, 0))), 1)
	other := compiled(t, ensemble(1, stump(catsOf(0, right, 0, 0, 4, 9))), 1)
	one.Base[0], other.Base[0] = 0, 0
	isImage(t, "a number", one, framed(ahead+numberLost+"00"))
	isImage(t, "categories", other, framed(ahead+"00"+catsLost))
	for place, s := range map[int]string{
		14: "80 00" + "01 3f f0 00 00 00 00 00 00 00 00 01 01 00",
		15: "00" + "82 00 3f f0 00 00 00 00 00 00 00 00 01 01 00",
		16: "00 01 3f f0 00 00 00 00 00",
		24: "00 01 3f f0 00 00 00 00 00 00" + "80 00 00 01 01 00",
		25: "00 01 3f f0 00 00 00 00 00 00 00" + "80 00 01 01 00",
		26: "00 01 3f f0 00 00 00 00 00 00 00 00" + "81 00 01 00",
		27: "00 01 3f f0 00 00 00 00 00 00 00 00 01" + "02 00",
		28: "00 01 3f f0 00 00 00 00 00 00 00 00 01 01" + "80 00",
	} {
		isFaulty(t, "an item of a number's cut", framed(strings.TrimSuffix(ahead, "00")+s), api.ErrImage, place)
	}
	for place, s := range map[int]string{
		16: "80 00 02 04 05 00 00 01 01",
		17: "01 82 00 04 05 00 00 01 01",
		18: "01 02 84 00 05 00 00 01 01",
		19: "01 02 04 85 00 00 00 01 01",
		20: "01 02 04 05 80 00 00 01 01",
		21: "01 02 04 05 00 80 00 01 01",
		22: "01 02 04 05 00 00 81 00 01",
		23: "01 02 04 05 00 00 01 ff",
	} {
		isFaulty(t, "an item of a cut of categories", framed(ahead+"00"+s), api.ErrImage, place)
	}
	for v := 2; v < 256; v++ {
		b := framed(ahead + numberLost + "00")
		b[27] = byte(v)
		isFaulty(t, "a mark", sealed(b[:len(b)-8]), api.ErrImage, 27)
	}
	isFaulty(t, "no mark", framed(ahead+"01 3f f0 00 00 00 00 00 00 00 00 01"), api.ErrImage, 27)
	isFaulty(t, "no mark", framed(ahead+"00 01 02 04 05 00 00 01"), api.ErrImage, 23)
	for n := range 8 {
		isFaulty(t, "a threshold not whole", framed(ahead+"01"+strings.Repeat("00", n)), api.ErrImage, []int{15, 16}[min(n, 1)])
	}
}

// Each counted thing, one more than the bytes that are left behind it, and just as many.
func TestCountedThings(t *testing.T) {
	for what, c := range map[string]struct {
		ahead string
		place int
	}{
		"blocks":     {"01 01 00", 7},
		"trees":      {"01 01 00 01", 8},
		"leaves":     {"01 01 00 01 01 00", 10},
		"lists":      {"01 01 00 01 01 00 01 00", 12},
		"Numbers":    {"01 01 00 01 01 00 01 00 01 00", 14},
		"Cats":       {"01 01 00 01 01 00 01 00 01 00 00", 15},
		"categories": {"01 01 00 01 01 00 01 00 01 00 00 01", 16},
	} {
		for _, left := range []int{0, 1, 2, 5, 127, 128, 300} {
			behind := strings.Repeat("80", left) // of which none is a whole count
			more := framed(c.ahead + hexOfCount(left+1) + behind)
			isFaulty(t, what+": one more than can be", more, api.ErrImage, c.place)
			next := c.place + len(bytesOf(hexOfCount(left)))
			if left == 0 || what == "Numbers" && left >= 8 {
				continue // nothing is read behind it, or thresholds are
			}
			isFaulty(t, what+": as many as can be", framed(c.ahead+hexOfCount(left)+behind), api.ErrImage, next)
		}
		for _, s := range []string{"80 80 80 80 80 80 80 10", "ff ff ff ff 0f"} {
			isFaulty(t, what+": many more than can be", framed(c.ahead+s+"00 00 00"), api.ErrImage, c.place)
		}
	}
	// As many things as bytes, each of them just a byte.
	isDecoded(t, "leaves of a byte each", framed("01 01 00 01 01 00 01 05 00"), api.Form{Features: 1, Outputs: 1, Base: []int64{0}, Blocks: []api.Block{{Leaves: []int{1}, Values: [][]int64{{-3}}, Outputs: []int{0}}}})
	isFaulty(t, "three values and no lists", framed("01 01 00 01 01 00 03 01 02 03"), api.ErrImage, 14)
	isFaulty(t, "categories of a byte each, and no tail", framed("01 01 00 01 01 00 01 00 01 00 00 01 03 01 01 01"), api.ErrImage, 20)
}

func hexOfCount(n int) string {
	s := ""
	for ; n > 127; n /= 128 {
		s += string("0123456789abcdef"[8+n%128/16]) + string("0123456789abcdef"[n%16])
	}
	return s + string("0123456789abcdef"[n/16]) + string("0123456789abcdef"[n%16])
}

// Of two faults the first one from the left is told; ahead of all: the beginning, the length, the sum; behind all: the form.
func TestTwoFaults(t *testing.T) {
	isFaulty(t, "beginning and length", []byte("THQ1"), api.ErrImage, 2)
	isFaulty(t, "beginning and sum", append([]byte("THK2"), make([]byte, 30)...), api.ErrImage, 3)
	isFaulty(t, "sum and a count", append(bytesOf("54 48 4b 31 81 00 01 00 00"), make([]byte, 8)...), api.ErrSum, 9)
	isFaulty(t, "sum and a form", append(bytesOf("54 48 4b 31 01 00 00"), make([]byte, 8)...), api.ErrSum, 7)
	isFaulty(t, "two counts", framed("81 00 81 00 00 00"), api.ErrImage, 4)
	isFaulty(t, "a count and blocks", framed("01 81 00 00 05"), api.ErrImage, 5)
	isFaulty(t, "a number and blocks", framed("01 01 80 00 05"), api.ErrImage, 6)
	isFaulty(t, "blocks, and what is behind", framed("01 01 00 09 00"), api.ErrImage, 7)
	isFaulty(t, "a byte behind, and the form", framed("01 00 00 00"), api.ErrImage, 7)
	isFaulty(t, "many bytes behind", framed("01 01 00 00 81 00 05"), api.ErrImage, 8)
	isFaulty(t, "Outputs that are too many, and a Base", framed("01 7f 00 80 00"), api.ErrImage, 7)
	isFaulty(t, "two marks", framed(ahead+"02 3f f0 00 00 00 00 00 00 00 00 01 07 3f f0 00 00 00 00 00 00 00 00 01 08 00"), api.ErrImage, 27)
	isFaulty(t, "a mark, and a byte behind", framed(ahead+"01 3f f0 00 00 00 00 00 00 00 00 01 02 00 00"), api.ErrImage, 27)
}

// Forms that are not right: none is written, and what would be is not taken.
func TestWrongForms(t *testing.T) {
	for what, spoil := range map[string]func(f *api.Form, b *api.Block){
		"Features too few":             func(f *api.Form, b *api.Block) { f.Features = 1 },
		"Features too many":            func(f *api.Form, b *api.Block) { f.Features = api.MaxFeatures + 1 },
		"a block without anything":     func(f *api.Form, b *api.Block) { f.Blocks = append(f.Blocks, api.Block{First: 3}) },
		"an empty block ahead":         func(f *api.Form, b *api.Block) { f.Blocks = slices.Insert(f.Blocks, 0, api.Block{}) },
		"a block without trees":        func(f *api.Form, b *api.Block) { *b = api.Block{Lists: b.Lists} },
		"a block without lists":        func(f *api.Form, b *api.Block) { b.Lists = nil },
		"a list without cuts":          func(f *api.Form, b *api.Block) { b.Lists = append(b.Lists, api.List{Feature: 2}) },
		"lists exchanged":              func(f *api.Form, b *api.Block) { b.Lists[0], b.Lists[1] = b.Lists[1], b.Lists[0] },
		"a list's feature":             func(f *api.Form, b *api.Block) { b.Lists[1].Feature = 3 },
		"an output":                    func(f *api.Form, b *api.Block) { b.Outputs[1] = 2 },
		"a tree without leaves":        func(f *api.Form, b *api.Block) { b.Leaves[0], b.Values[0] = 0, nil },
		"a leaf more":                  func(f *api.Form, b *api.Block) { b.Leaves[0], b.Values[0] = 3, append(b.Values[0], 5) },
		"Numbers exchanged":            func(f *api.Form, b *api.Block) { n := b.Lists[1].Numbers; n[1], n[2] = n[2], n[1] },
		"alike Numbers exchanged":      func(f *api.Form, b *api.Block) { n := b.Lists[1].Numbers; n[0], n[1] = n[1], n[0] },
		"a threshold that is a NaN":    func(f *api.Form, b *api.Block) { b.Lists[1].Numbers[0].Threshold = nan },
		"a number that is missing":     func(f *api.Form, b *api.Block) { b.Lists[1].Numbers = b.Lists[1].Numbers[1:] },
		"a number twice":               func(f *api.Form, b *api.Block) { l := &b.Lists[1].Numbers; *l = slices.Insert(*l, 0, (*l)[0]) },
		"a cut's tree":                 func(f *api.Form, b *api.Block) { b.Lists[1].Numbers[0].Tree = 3 },
		"a cut's tree, far":            func(f *api.Form, b *api.Block) { b.Lists[1].Numbers[0].Tree = 1 << 53 },
		"a cut's From":                 func(f *api.Form, b *api.Block) { b.Lists[1].Numbers[0].From = 2 },
		"a cut's To":                   func(f *api.Form, b *api.Block) { b.Lists[1].Numbers[0].To = 3 },
		"a cut's To, far":              func(f *api.Form, b *api.Block) { b.Lists[1].Numbers[0].To = 1 << 53 },
		"no categories":                func(f *api.Form, b *api.Block) { b.Lists[1].Cats[0].Cats = nil },
		"a category twice":             func(f *api.Form, b *api.Block) { b.Lists[1].Cats[0].Cats = []int{7, 7} },
		"a category too great":         func(f *api.Form, b *api.Block) { b.Lists[1].Cats[0].Cats = []int{7, 1024} },
		"a category much too great":    func(f *api.Form, b *api.Block) { b.Lists[1].Cats[0].Cats = []int{1 << 53} },
		"a category too great, behind": func(f *api.Form, b *api.Block) { b.Lists[1].Cats[0].Cats = []int{7, 1<<53 + 7, 1<<54 + 7} },
	} {
		f := compiled(t, many(), 3)
		spoil(&f, &f.Blocks[0])
		isRefused(t, what, f)
		isFaulty(t, what, sealed(encodeByWords(f)), api.ErrForm, 0)
	}
	// What an image can not say is refused too.
	for what, spoil := range map[string]func(f *api.Form, b *api.Block){
		"First":                        func(f *api.Form, b *api.Block) { b.First = 1 },
		"Features below 0":             func(f *api.Form, b *api.Block) { f.Features = -1 },
		"Leaves":                       func(f *api.Form, b *api.Block) { b.Leaves[0] = 3 },
		"a threshold of categories":    func(f *api.Form, b *api.Block) { b.Lists[1].Cats[0].Threshold = minus0 },
		"categories of a number":       func(f *api.Form, b *api.Block) { b.Lists[1].Numbers[0].Cats = []int{1} },
		"Lost out of order":            func(f *api.Form, b *api.Block) { n := b.Lists[1].Lost; n[0], n[1] = n[1], n[0] },
		"Lost that is no cut":          func(f *api.Form, b *api.Block) { b.Lists[1].Lost[0].To++ },
		"Lost with another threshold":  func(f *api.Form, b *api.Block) { b.Lists[1].Lost[0].Threshold++ },
		"Lost twice":                   func(f *api.Form, b *api.Block) { l := &b.Lists[1].Lost; *l = slices.Insert(*l, 0, (*l)[0]) },
		"Lost of another list":         func(f *api.Form, b *api.Block) { b.Lists[0].Lost = b.Lists[1].Lost },
		"an output below 0":            func(f *api.Form, b *api.Block) { b.Outputs[0] = -1 },
		"a cut's From below 0":         func(f *api.Form, b *api.Block) { b.Lists[1].Numbers[0].From = -1 },
		"a category below 0":           func(f *api.Form, b *api.Block) { b.Lists[1].Cats[0].Cats = []int{-1} },
		"fewer outputs than trees":     func(f *api.Form, b *api.Block) { b.Outputs = b.Outputs[:1] },
		"fewer values than trees":      func(f *api.Form, b *api.Block) { b.Values = b.Values[:1] },
		"more outputs than there are":  func(f *api.Form, b *api.Block) { f.Outputs = math.MaxInt },
		"more features than there are": func(f *api.Form, b *api.Block) { f.Features = math.MaxInt },
	} {
		f := compiled(t, many(), 3)
		spoil(&f, &f.Blocks[0])
		isRefused(t, what, f)
	}
}

// Categories whose differences add up to more than there are numbers: the sum may not come round to a right one.
func TestWrappingCategories(t *testing.T) {
	const most = "80 80 80 80 80 80 80 10" // 2^53
	for _, n := range []int{1, 2, 1023, 1024, 2047, 2048, 2049, 4096} {
		cats := hexOfCount(n+1) + "04" + strings.Repeat(most, n)
		isFaulty(t, "categories", framed(ahead+"00 01"+cats+"00 00 01 01"), api.ErrForm, 0)
	}
}

// A leaf is all that a form of no features may ask for; the greatest form of each kind is met.
func TestLimits(t *testing.T) {
	e := ensemble(api.MaxFeatures, stump(numberOf(api.MaxFeatures-1, 1, left, 0, 0)))
	f := compiled(t, e, api.MaxTrees)
	isImage(t, "MaxFeatures", f, sealed(encodeByWords(f)))
	f.Features--
	isRefused(t, "a feature fewer", f)
	isFaulty(t, "a feature fewer", sealed(encodeByWords(f)), api.ErrForm, 0)
	trees := make([]api.Tree, api.MaxTrees)
	for i := range trees {
		trees[i] = treeOf(leafOf(-1))
	}
	f = compiled(t, ensemble(0, trees...), 1000)
	isImage(t, "MaxTrees", f, sealed(encodeByWords(f)))
	last := &f.Blocks[len(f.Blocks)-1]
	last.Leaves, last.Values, last.Outputs = append(last.Leaves, 1), append(last.Values, []int64{1}), append(last.Outputs, 0)
	isRefused(t, "a tree more", f)
	isFaulty(t, "a tree more", sealed(encodeByWords(f)), api.ErrForm, 0)
	if why, at := blocks.Check(f); why != api.ErrForm || at == 0 {
		t.Error("the test's form is not wrong in a later block:", why, at)
	}
}

package bits

import (
	"math"
	"math/rand/v2"
	"slices"
	"testing"

	"thicket/api"
)

func source() *rand.Rand { return rand.New(rand.NewPCG(9, 10)) }

// all is a word with all bits in; no constant, so that it can be shifted.
var all uint64 = math.MaxUint64

// outside are numbers that are not from 0 to MaxBits.
var outside = []int{-1, -63, -64, -65, math.MinInt, api.MaxBits + 1, api.MaxBits + 64, 1 << 31, 1 << 32, 1 << 62, math.MaxInt - 62, math.MaxInt}

// members is a set by its own words: whether each bit is in.
func members(a []uint64) []bool {
	l := make([]bool, 0, 64*len(a))
	for _, word := range a {
		for range 64 {
			l = append(l, word%2 == 1)
			word /= 2
		}
	}
	return l
}

// wordsOf are the words that n bits take of which in says which are in.
func wordsOf(n int, in func(i int) bool) []uint64 {
	var a []uint64
	for i := range n {
		if i%64 == 0 {
			a = append(a, 0)
		}
		if in(i) {
			a[len(a)-1] += uint64(math.Pow(2, float64(i%64)))
		}
	}
	return a
}

// someSet has n words: few bits, many, or whole words of either kind beside others.
func someSet(r *rand.Rand, n int) []uint64 {
	a := make([]uint64, n, n+3)
	kind := r.IntN(5)
	for i := range a {
		word := r.Uint64()
		switch kind {
		case 0:
			word &= r.Uint64() & r.Uint64() & r.Uint64()
		case 1:
			word |= r.Uint64() | r.Uint64() | r.Uint64()
		case 2:
			word = []uint64{0, all, 1, 1 << 63, all << 1, all >> 1, word}[r.IntN(7)]
		case 3:
			word = all >> r.IntN(65) << r.IntN(65)
		}
		a[i] = word
	}
	return a
}

// sets are the edges and many others of up to five words.
func sets() [][]uint64 {
	l := [][]uint64{nil, {}, {0}, {1}, {1 << 63}, {all}, {5}, {6}, {7}, {0, 0}, {0, 4}, {all, all}, {1 << 63, 1}, {1 << 63, 3}, {all, 0, all}, {0, all, 0}, {1, 0, 0, 1 << 63}, {0, 0, 0}}
	r := source()
	for range 3000 {
		l = append(l, someSet(r, r.IntN(6)))
	}
	return l
}

// beside are numbers of bits at and around a set's: all of its own, and some far beyond.
func beside(a []uint64) []int {
	l := []int{math.MinInt, math.MinInt + 1, -1 << 32, -65, -64, -63, -2, 1 << 31, 1 << 32, 1 << 62, math.MaxInt - 1, math.MaxInt}
	for i := -1; i <= 64*len(a)+65; i++ {
		l = append(l, i)
	}
	return l
}

func TestWords(t *testing.T) {
	want := 0
	for n := range api.MaxBits + 1 {
		if n > 64*want {
			want++
		}
		if w, why := Words(n); w != want || why != api.OK {
			t.Fatalf("5.1: Words(%d) = %d, %d", n, w, why)
		}
	}
	if want != 1<<14 {
		t.Errorf("5.1: MaxBits have %d words", want)
	}
	for _, n := range outside {
		if w, why := Words(n); w != 0 || why != api.ErrRange {
			t.Errorf("5.1: Words(%d) = %d, %d", n, w, why)
		}
	}
}

func TestNumberOfBitsIsSeenFirst(t *testing.T) {
	wrong := []api.Run{{From: 3, To: 1}}
	for _, n := range outside {
		if a, why := Full(n); a != nil || why != api.ErrRange {
			t.Errorf("5.1: Full(%d) = %v, %d", n, a, why)
		}
		if a, why := Empty(n); a != nil || why != api.ErrRange {
			t.Errorf("5.1: Empty(%d) = %v, %d", n, a, why)
		}
		for _, to := range []int{0, n, -1} {
			if a, why := Mask(n, 0, to); a != nil || why != api.ErrRange {
				t.Errorf("5.1: Mask(%d, 0, %d) = %v, %d", n, to, a, why)
			}
		}
		for _, l := range [][]api.Run{nil, wrong, {{From: 0, To: 1}}} {
			if a, why := Of(n, l); a != nil || why != api.ErrRange {
				t.Errorf("5.1: Of(%d, %v) = %v, %d", n, l, a, why)
			}
		}
		for _, a := range [][]uint64{nil, {0}, {all, all}} {
			if s, why := Print(a, n); s != "" || why != api.ErrRange {
				t.Errorf("5.1: Print(%v, %d) = %q, %d", a, n, s, why)
			}
		}
	}
}

func TestFullEmpty(t *testing.T) {
	sizes := []int{api.MaxBits - 65, api.MaxBits - 64, api.MaxBits - 63, api.MaxBits - 1, api.MaxBits}
	for n := range 400 {
		sizes = append(sizes, n)
	}
	for _, n := range sizes {
		full, why := Full(n)
		if want := wordsOf(n, func(int) bool { return true }); why != api.OK || !slices.Equal(full, want) {
			t.Errorf("5.1: Full(%d) = %.80v, %d", n, full, why)
		}
		empty, why := Empty(n)
		if want := wordsOf(n, func(int) bool { return false }); why != api.OK || !slices.Equal(empty, want) {
			t.Errorf("5.1: Empty(%d) = %.80v, %d", n, empty, why)
		}
	}
	if a, _ := Full(65); !slices.Equal(a, []uint64{all, 1}) {
		t.Errorf("5.1: Full(65) = %v", a)
	}
}

func TestMask(t *testing.T) {
	for _, c := range []struct {
		n, from, to int
		want        []uint64
		why         api.Errno
	}{
		{4, 1, 3, []uint64{9}, 0}, {4, 2, 2, []uint64{15}, 0}, {4, 3, 2, nil, api.ErrRange}, {0, 0, 0, nil, 0}, {4, 0, 4, []uint64{0}, 0}, {64, 63, 64, []uint64{all >> 1}, 0}, {65, 0, 64, []uint64{0, 1}, 0}, {128, 64, 128, []uint64{all, 0}, 0}, {130, 63, 129, []uint64{all >> 1, 0, 2}, 0},
		{0, 0, 1, nil, api.ErrRange}, {4, -1, 3, nil, api.ErrRange}, {4, 1, 5, nil, api.ErrRange}, {4, 5, 5, nil, api.ErrRange}, {4, -1, -1, nil, api.ErrRange}, {4, math.MinInt, math.MaxInt, nil, api.ErrRange}, {4, math.MaxInt, math.MinInt, nil, api.ErrRange},
	} {
		if a, why := Mask(c.n, c.from, c.to); !slices.Equal(a, c.want) || why != c.why {
			t.Errorf("5.1: Mask(%d, %d, %d) = %v, %d", c.n, c.from, c.to, a, why)
		}
	}
	for _, n := range []int{0, 1, 2, 5, 63, 64, 65, 66, 127, 128, 129, 193} {
		for from := -1; from <= n+1; from++ {
			for to := -1; to <= n+1; to++ {
				a, why := Mask(n, from, to)
				if from < 0 || from > to || to > n {
					if a != nil || why != api.ErrRange {
						t.Fatalf("5.1: Mask(%d, %d, %d) = %v, %d", n, from, to, a, why)
					}
					continue
				}
				want := wordsOf(n, func(i int) bool { return i < from || i >= to })
				if why != api.OK || !slices.Equal(a, want) {
					t.Fatalf("5.1: Mask(%d, %d, %d) = %v, %d", n, from, to, a, why)
				}
			}
		}
	}
	a, why := Mask(api.MaxBits, 1, api.MaxBits-1)
	if why != api.OK || len(a) != 1<<14 || Count(a) != 2 || !Has(a, 0) || !Has(a, api.MaxBits-1) {
		t.Errorf("5.1: Mask of MaxBits: %d words, %d", len(a), why)
	}
}

// joins are the word by word operations and what they are by elements.
var joins = []struct {
	name string
	call func(a, b []uint64) ([]uint64, api.Errno)
	in   func(a, b bool) bool
}{
	{"And", And, func(a, b bool) bool { return a && b }},
	{"Or", Or, func(a, b bool) bool { return a || b }},
	{"Xor", Xor, func(a, b bool) bool { return a != b }},
	{"Meet", met, func(a, b bool) bool { return a && b }},
}

// met is Meet of a copy.
func met(a, b []uint64) ([]uint64, api.Errno) {
	c := slices.Clone(a)
	if why := Meet(c, b); why != api.OK {
		if !slices.Equal(a, c) {
			panic("5.2: a refused Meet changes its argument")
		}
		return nil, why
	}
	return c, api.OK
}

func TestWordByWord(t *testing.T) {
	if a, why := And([]uint64{12}, []uint64{10}); why != api.OK || !slices.Equal(a, []uint64{8}) {
		t.Errorf("5.2: And = %v, %d", a, why)
	}
	for _, c := range joins {
		l := sets()
		for i, a := range l {
			b := l[(i*7+3)%len(l)]
			got, why := c.call(a, b)
			if len(a) != len(b) {
				if got != nil || why != api.ErrSize {
					t.Fatalf("5.2: %s(%v, %v) = %v, %d", c.name, a, b, got, why)
				}
				continue
			}
			inA, inB := members(a), members(b)
			want := wordsOf(len(inA), func(i int) bool { return c.in(inA[i], inB[i]) })
			if why != api.OK || !slices.Equal(got, want) {
				t.Fatalf("5.2: %s(%v, %v) = %v, %d", c.name, a, b, got, why)
			}
		}
	}
}

func TestUnlikeSizes(t *testing.T) {
	for _, c := range joins {
		for _, p := range [][2][]uint64{{{1}, {1, 0}}, {{1, 0}, {1}}, {nil, {0}}, {{0}, nil}, {{}, {1, 2, 3}}} {
			if a, why := c.call(p[0], p[1]); a != nil || why != api.ErrSize {
				t.Errorf("5.2: %s(%v, %v) = %v, %d", c.name, p[0], p[1], a, why)
			}
		}
		for _, p := range [][2][]uint64{{nil, nil}, {nil, {}}, {{}, nil}} {
			if a, why := c.call(p[0], p[1]); len(a) != 0 || why != api.OK {
				t.Errorf("5.2, P1: %s(%v, %v) = %v, %d", c.name, p[0], p[1], a, why)
			}
		}
	}
}

func TestMeetWritesItsPlaces(t *testing.T) {
	a, b := []uint64{15, 12, 77}, []uint64{6, 10, 99}
	if why := Meet(a[:2], b[:2]); why != api.OK || !slices.Equal(a, []uint64{6, 8, 77}) || !slices.Equal(b, []uint64{6, 10, 99}) {
		t.Errorf("5.2: Meet leaves %v and %v, %d", a, b, why)
	}
	if why := Meet(a[:2], b); why != api.ErrSize || !slices.Equal(a, []uint64{6, 8, 77}) || !slices.Equal(b, []uint64{6, 10, 99}) {
		t.Errorf("5.2: a refused Meet leaves %v and %v, %d", a, b, why)
	}
	if why := Meet(b, b); why != api.OK || !slices.Equal(b, []uint64{6, 10, 99}) {
		t.Errorf("5.2: Meet of a set and itself leaves %v, %d", b, why)
	}
}

func TestMeetOfListsThatOverlap(t *testing.T) {
	r := source()
	for size := range 9 {
		for at := range 9 {
			for from := range 9 {
				room := make([]uint64, 20)
				for i := range room {
					room[i] = r.Uint64() | r.Uint64()
				}
				a, b := room[at:at+size], room[from:from+size]
				want := slices.Clone(room)
				for i := range size {
					want[at+i] = room[at+i] & room[from+i]
				}
				if why := Meet(a, b); why != api.OK || !slices.Equal(room, want) {
					t.Fatalf("5.2: Meet of %d words at %d and at %d leaves %x, not %x; %d", size, at, from, room, want, why)
				}
			}
		}
	}
}

func TestHasWithLess(t *testing.T) {
	if a, why := With([]uint64{0}, 63); why != api.OK || !slices.Equal(a, []uint64{1 << 63}) {
		t.Errorf("5.3: With({0}, 63) = %v, %d", a, why)
	}
	for k, a := range sets()[:300] {
		in := members(a)
		for _, i := range beside(a) {
			with, whyWith := With(a, i)
			less, whyLess := Less(a, i)
			if i < 0 || i >= len(in) {
				if Has(a, i) || with != nil || less != nil || whyWith != api.ErrRange || whyLess != api.ErrRange {
					t.Fatalf("5.3: bit %d of %v: %v; With %v, %d; Less %v, %d", i, a, Has(a, i), with, whyWith, less, whyLess)
				}
				continue
			}
			wantWith := wordsOf(len(in), func(j int) bool { return j == i || in[j] })
			wantLess := wordsOf(len(in), func(j int) bool { return j != i && in[j] })
			if Has(a, i) != in[i] || whyWith != api.OK || whyLess != api.OK || !slices.Equal(with, wantWith) || !slices.Equal(less, wantLess) {
				t.Fatalf("5.3: set %d: bit %d of %v: %v; With %v, %d; Less %v, %d", k, i, a, Has(a, i), with, whyWith, less, whyLess)
			}
		}
	}
}

func TestLowestHighestCount(t *testing.T) {
	if Lowest([]uint64{0, 4}) != 66 || Highest([]uint64{5}) != 2 || Lowest([]uint64{0}) != -1 || Highest(nil) != -1 {
		t.Error("5.4: the examples of Lowest and Highest")
	}
	for _, a := range sets() {
		lowest, highest, count := -1, -1, 0
		for i, in := range members(a) {
			if in {
				highest = i
				if count == 0 {
					lowest = i
				}
				count++
			}
		}
		if Lowest(a) != lowest || Highest(a) != highest || Count(a) != count {
			t.Fatalf("5.4: of %v: Lowest %d, Highest %d, Count %d; not %d, %d, %d", a, Lowest(a), Highest(a), Count(a), lowest, highest, count)
		}
	}
}

func TestRank(t *testing.T) {
	if Rank([]uint64{7}, 2) != 2 || Rank([]uint64{7}, 999) != 3 {
		t.Error("5.4: the examples of Rank")
	}
	for _, a := range sets()[:500] {
		in := members(a)
		below := 0
		for i := range len(in) + 1 {
			if Rank(a, i) != below {
				t.Fatalf("5.4: Rank(%v, %d) = %d, not %d", a, i, Rank(a, i), below)
			}
			if i < len(in) && in[i] {
				below++
			}
		}
		for _, i := range beside(a) {
			if i < 0 && Rank(a, i) != 0 || i > len(in) && Rank(a, i) != below {
				t.Fatalf("5.4: Rank(%v, %d) = %d", a, i, Rank(a, i))
			}
		}
	}
}

func TestSelect(t *testing.T) {
	if Select([]uint64{6}, 1) != 2 || Select([]uint64{6}, 2) != -1 {
		t.Error("5.4: the examples of Select")
	}
	for _, a := range sets()[:1000] {
		k := 0
		for i, in := range members(a) {
			if in {
				if Select(a, k) != i {
					t.Fatalf("5.4: Select(%v, %d) = %d, not %d", a, k, Select(a, k), i)
				}
				k++
			}
		}
		for _, k := range []int{k, k + 1, k + 64, -1, -64, math.MinInt, math.MaxInt} {
			if Select(a, k) != -1 {
				t.Fatalf("5.4: Select(%v, %d) = %d", a, k, Select(a, k))
			}
		}
	}
}

package bits

import (
	"math"
	"slices"
	"strings"
	"testing"
	"unsafe"

	"thicket/api"
)

func run(from, to int) api.Run { return api.Run{From: from, To: to} }

func runs(places ...int) []api.Run {
	var l []api.Run
	for p := range slices.Chunk(places, 2) {
		l = append(l, run(p[0], p[1]))
	}
	return l
}

func TestRuns(t *testing.T) {
	for _, c := range []struct {
		a    []uint64
		want []api.Run
	}{
		{[]uint64{1 << 63, 3}, runs(63, 66)}, {nil, nil}, {[]uint64{}, nil}, {[]uint64{0}, nil}, {[]uint64{0, 0, 0}, nil}, {[]uint64{all}, runs(0, 64)}, {[]uint64{all, all, all}, runs(0, 192)}, {[]uint64{5}, runs(0, 1, 2, 3)}, {[]uint64{1 << 63}, runs(63, 64)}, {[]uint64{1 << 63, 0, 1}, runs(63, 64, 128, 129)},
		{[]uint64{all, 0, all}, runs(0, 64, 128, 192)}, {[]uint64{0, all, 0}, runs(64, 128)}, {[]uint64{1 << 63, all, 1}, runs(63, 129)}, {[]uint64{all << 1, all >> 1}, runs(1, 127)}, {[]uint64{19}, runs(0, 2, 4, 5)},
	} {
		if l := Runs(c.a); !slices.Equal(l, c.want) {
			t.Errorf("5.5: Runs(%v) = %v", c.a, l)
		}
	}
	for _, a := range sets() {
		var want []api.Run
		for i, in := range members(a) {
			switch {
			case in && len(want) > 0 && want[len(want)-1].To == i:
				want[len(want)-1].To = i + 1
			case in:
				want = append(want, run(i, i+1))
			}
		}
		if l := Runs(a); !slices.Equal(l, want) {
			t.Fatalf("5.5: Runs(%v) = %v, not %v", a, l, want)
		}
	}
}

func TestOf(t *testing.T) {
	for _, c := range []struct {
		n    int
		l    []api.Run
		want []uint64
		why  api.Errno
	}{
		{8, runs(0, 2, 4, 5), []uint64{19}, 0}, {8, runs(0, 2, 1, 5), nil, api.ErrBits}, {8, runs(0, 2, 2, 5), []uint64{31}, 0}, {0, nil, nil, 0}, {0, []api.Run{}, nil, 0}, {1, nil, []uint64{0}, 0}, {65, nil, []uint64{0, 0}, 0}, {8, runs(0, 8), []uint64{255}, 0}, {8, runs(7, 8), []uint64{128}, 0},
		{64, runs(0, 64), []uint64{all}, 0}, {130, runs(63, 66), []uint64{1 << 63, 3, 0}, 0}, {130, runs(1, 129), []uint64{all << 1, all, 1}, 0}, {130, runs(0, 64, 64, 128, 128, 130), []uint64{all, all, 3}, 0},
		{0, runs(0, 0), nil, api.ErrBits}, {0, runs(0, 1), nil, api.ErrBits}, {8, runs(0, 9), nil, api.ErrBits}, {8, runs(8, 9), nil, api.ErrBits}, {8, runs(8, 8), nil, api.ErrBits}, {8, runs(3, 3), nil, api.ErrBits}, {8, runs(3, 2), nil, api.ErrBits}, {8, runs(-1, 2), nil, api.ErrBits}, {8, runs(-2, -1), nil, api.ErrBits},
		{8, runs(4, 5, 0, 2), nil, api.ErrBits}, {8, runs(0, 2, 0, 2), nil, api.ErrBits}, {8, runs(0, 2, 5, 5), nil, api.ErrBits}, {8, runs(0, 2, 5, 9), nil, api.ErrBits}, {8, runs(0, 5, 6, 7, 2, 3), nil, api.ErrBits}, {8, runs(0, 5, 1, 8), nil, api.ErrBits},
		{8, runs(math.MinInt, math.MaxInt), nil, api.ErrBits}, {8, runs(0, math.MaxInt), nil, api.ErrBits}, {8, runs(math.MinInt, 1), nil, api.ErrBits}, {64, runs(0, 65), nil, api.ErrBits}, {65, runs(0, 66), nil, api.ErrBits}, {65, runs(0, 65), []uint64{all, 1}, 0},
	} {
		if a, why := Of(c.n, c.l); !slices.Equal(a, c.want) || why != c.why || why != api.OK && a != nil {
			t.Errorf("5.5: Of(%d, %v) = %v, %d", c.n, c.l, a, why)
		}
	}
	a, why := Of(api.MaxBits, runs(0, 1, api.MaxBits-1, api.MaxBits))
	if why != api.OK || len(a) != 1<<14 || Count(a) != 2 || a[0] != 1 || a[1<<14-1] != 1<<63 {
		t.Errorf("5.5: Of(MaxBits): %d words, %d", len(a), why)
	}
}

// TestOfAnyRuns takes all lists of up to three runs within few bits.
func TestOfAnyRuns(t *testing.T) {
	const n = 4
	var some []api.Run
	for from := -1; from <= n+1; from++ {
		for to := -1; to <= n+1; to++ {
			some = append(some, run(from, to))
		}
	}
	var try func(l []api.Run)
	try = func(l []api.Run) {
		right := true
		for i, r := range l {
			right = right && 0 <= r.From && r.From < r.To && r.To <= n && (i == 0 || l[i-1].To <= r.From)
		}
		a, why := Of(n, l)
		want := wordsOf(n, func(i int) bool {
			return slices.ContainsFunc(l, func(r api.Run) bool { return r.From <= i && i < r.To })
		})
		if right && (why != api.OK || !slices.Equal(a, want)) || !right && (why != api.ErrBits || a != nil) {
			t.Fatalf("5.5: Of(%d, %v) = %v, %d", n, l, a, why)
		}
		if len(l) < 3 {
			for _, r := range some {
				try(append(slices.Clone(l), r))
			}
		}
	}
	try(nil)
}

func TestPrint(t *testing.T) {
	for _, c := range []struct {
		a    []uint64
		n    int
		want string
		why  api.Errno
	}{
		{[]uint64{5}, 3, "101", 0}, {[]uint64{9}, 3, "", api.ErrBits}, {[]uint64{1, 0}, 3, "", api.ErrSize}, {nil, 0, "", 0}, {[]uint64{}, 0, "", 0}, {[]uint64{0}, 0, "", api.ErrSize}, {nil, 1, "", api.ErrSize}, {[]uint64{0}, 1, "0", 0}, {[]uint64{1}, 1, "1", 0}, {[]uint64{2}, 1, "", api.ErrBits}, {[]uint64{6}, 5, "01100", 0},
		{[]uint64{9, 0}, 3, "", api.ErrSize}, {[]uint64{1 << 63}, 63, "", api.ErrBits}, {[]uint64{1 << 63}, 64, strings.Repeat("0", 63) + "1", 0}, {[]uint64{0, 1}, 64, "", api.ErrSize}, {[]uint64{0, 1}, 65, strings.Repeat("0", 64) + "1", 0}, {[]uint64{0, 2}, 65, "", api.ErrBits}, {[]uint64{all, all}, 128, strings.Repeat("1", 128), 0}, {[]uint64{all}, 65, "", api.ErrSize},
	} {
		if s, why := Print(c.a, c.n); s != c.want || why != c.why {
			t.Errorf("5.6: Print(%v, %d) = %q, %d", c.a, c.n, s, why)
		}
	}
	full, _ := Full(api.MaxBits)
	if s, why := Print(full, api.MaxBits); why != api.OK || s != strings.Repeat("1", api.MaxBits) {
		t.Errorf("5.6: Print of MaxBits: %d bytes, %d", len(s), why)
	}
	for _, a := range sets()[:500] {
		in := members(a)
		for n := max(0, len(in)-63); n <= len(in); n++ {
			s, why := Print(a, n)
			if slices.Contains(in[n:], true) {
				if s != "" || why != api.ErrBits {
					t.Fatalf("5.6: Print(%v, %d) = %q, %d", a, n, s, why)
				}
				continue
			}
			var want strings.Builder
			for _, one := range in[:n] {
				want.WriteByte(map[bool]byte{false: '0', true: '1'}[one])
			}
			if s != want.String() || why != api.OK {
				t.Fatalf("5.6: Print(%v, %d) = %q, %d", a, n, s, why)
			}
		}
	}
}

func TestRead(t *testing.T) {
	for _, c := range []struct {
		s    string
		want []uint64
		why  api.Errno
		at   int
	}{
		{"0102", nil, api.ErrBits, 3}, {"", nil, 0, 0}, {"0", []uint64{0}, 0, 0}, {"1", []uint64{1}, 0, 0}, {"01100", []uint64{6}, 0, 0}, {"2", nil, api.ErrBits, 0}, {"1x0y", nil, api.ErrBits, 1}, {"01 ", nil, api.ErrBits, 2}, {" 1", nil, api.ErrBits, 0}, {"1\n", nil, api.ErrBits, 1}, {"1/", nil, api.ErrBits, 1}, {"0\x00", nil, api.ErrBits, 1}, {"1\xff", nil, api.ErrBits, 1}, {"10é1", nil, api.ErrBits, 2}, {"-1", nil, api.ErrBits, 0},
		{strings.Repeat("0", 63) + "1", []uint64{1 << 63}, 0, 0}, {strings.Repeat("0", 64) + "1", []uint64{0, 1}, 0, 0}, {strings.Repeat("1", 65), []uint64{all, 1}, 0, 0}, {strings.Repeat("1", 64) + "2", nil, api.ErrBits, 64},
		{strings.Repeat("0", api.MaxBits+1), nil, api.ErrRange, 0}, {"01x" + strings.Repeat("0", api.MaxBits), nil, api.ErrRange, 0}, {strings.Repeat("1", api.MaxBits-1) + "x", nil, api.ErrBits, api.MaxBits - 1},
	} {
		n := len(c.s)
		if c.why != api.OK {
			n = 0
		}
		if a, m, why, at := Read(c.s); !slices.Equal(a, c.want) || m != n || why != c.why || at != c.at || why != api.OK && a != nil {
			t.Errorf("5.6: Read(%.80q) = %.80v, %d, %d, %d", c.s, a, m, why, at)
		}
	}
	full, _ := Full(api.MaxBits)
	if a, n, why, at := Read(strings.Repeat("1", api.MaxBits)); !slices.Equal(a, full) || n != api.MaxBits || why != api.OK || at != 0 {
		t.Errorf("5.6: Read of MaxBits: %d words, %d, %d, %d", len(a), n, why, at)
	}
	for c := range 256 {
		a, n, why, at := Read("01" + string([]byte{byte(c)}) + "1")
		switch {
		case c == '0' && why == api.OK && slices.Equal(a, []uint64{10}):
		case c == '1' && why == api.OK && slices.Equal(a, []uint64{14}):
		case c != '0' && c != '1' && a == nil && n == 0 && why == api.ErrBits && at == 2:
		default:
			t.Errorf("5.6: Read with the byte %d = %v, %d, %d, %d", c, a, n, why, at)
		}
	}
}

func TestLaws(t *testing.T) {
	l := sets()
	for i, a := range l {
		n := 64 * len(a)
		if of, why := Of(n, Runs(a)); why != api.OK || !slices.Equal(of, a) {
			t.Fatalf("5.8: Of(Runs(%v)) = %v, %d", a, of, why)
		}
		if least := Highest(a) + 1; len(a) > 0 && least > n-64 {
			s, why := Print(a, least)
			back, m, whyBack, _ := Read(s)
			if of, _ := Of(least, Runs(a)); why != api.OK || whyBack != api.OK || m != least || !slices.Equal(back, a) || !slices.Equal(of, a) {
				t.Fatalf("5.8: Read(Print(%v, %d)) = %v, %d; Of %v", a, least, back, m, of)
			}
		}
		for k := range Count(a) {
			if bit := Select(a, k); !Has(a, bit) || Rank(a, bit) != k {
				t.Fatalf("5.8: Select(%v, %d) = %d, whose Rank is %d", a, k, bit, Rank(a, bit))
			}
		}
		b := l[(i*11+5)%len(l)]
		if len(a) != len(b) {
			continue
		}
		and, _ := And(a, b)
		or, _ := Or(a, b)
		xor, _ := Xor(a, b)
		turned, _ := And(b, a)
		again, _ := Xor(xor, b)
		apart, _ := Xor(or, and)
		if Count(or)+Count(and) != Count(a)+Count(b) || Count(xor) != Count(or)-Count(and) || !slices.Equal(and, turned) || !slices.Equal(again, a) || !slices.Equal(apart, xor) {
			t.Fatalf("5.8: %v and %v: And %v, Or %v, Xor %v", a, b, and, or, xor)
		}
	}
}

func TestMaskMeetsSet(t *testing.T) {
	r := source()
	for range 3000 {
		n := r.IntN(300)
		words, _ := Words(n)
		from := r.IntN(n + 1)
		to := from + r.IntN(n+1-from)
		a := someSet(r, words)
		was := members(a)
		mask, _ := Mask(n, from, to)
		if why := Meet(a, mask); why != api.OK {
			t.Fatalf("5.9: Meet: %d", why)
		}
		for i, in := range members(a) {
			if in != (was[i] && i < n && (i < from || i >= to)) {
				t.Fatalf("5.9: bit %d behind Mask(%d, %d, %d) is %v", i, n, from, to, in)
			}
		}
	}
}

// roomy is a list with spare room behind it, filled with a mark.
func roomy[T any](mark T, l []T) []T {
	whole := append(slices.Clone(l), mark, mark, mark)
	return whole[:len(l)]
}

// places are the places in memory of a list, its spare room included.
func places[T any](l []T) (from, to uintptr) {
	var one T
	from = uintptr(unsafe.Pointer(unsafe.SliceData(l)))
	return from, from + uintptr(cap(l))*unsafe.Sizeof(one)
}

func apart[S, T any](a []S, b []T) bool {
	fromA, toA := places(a)
	fromB, toB := places(b)
	return cap(a) == 0 || cap(b) == 0 || toA <= fromB || toB <= fromA
}

func one(a []uint64, _ api.Errno) []uint64 { return a }

func TestNewMemory(t *testing.T) {
	calls := map[string]func(a, b []uint64, l []api.Run) []uint64{
		"Full":  func(a, b []uint64, l []api.Run) []uint64 { return one(Full(130)) },
		"Empty": func(a, b []uint64, l []api.Run) []uint64 { return one(Empty(130)) },
		"Mask":  func(a, b []uint64, l []api.Run) []uint64 { return one(Mask(130, 3, 70)) },
		"And":   func(a, b []uint64, l []api.Run) []uint64 { return one(And(a, b)) },
		"Or":    func(a, b []uint64, l []api.Run) []uint64 { return one(Or(a, b)) },
		"Xor":   func(a, b []uint64, l []api.Run) []uint64 { return one(Xor(a, b)) },
		"With":  func(a, b []uint64, l []api.Run) []uint64 { return one(With(a, 1)) },
		"Less":  func(a, b []uint64, l []api.Run) []uint64 { return one(Less(a, 1)) },
		"Of":    func(a, b []uint64, l []api.Run) []uint64 { return one(Of(130, l)) },
		"Read":  func(a, b []uint64, l []api.Run) []uint64 { c, _, _, _ := Read("0101"); return c },
		"none": func(a, b []uint64, l []api.Run) []uint64 {
			Has(a, 1)
			Lowest(a)
			Highest(a)
			Count(a)
			Rank(a, 70)
			Select(a, 1)
			Print(a, 64*len(a))
			return nil
		},
	}
	for name, call := range calls {
		for _, c := range [][2][]uint64{{nil, nil}, {{}, {}}, {{5}, {3}}, {{all, 0, 2}, {0, 1, all}}, {{0, 0}, {all, all}}} {
			a, b, l := roomy(77, c[0]), roomy(77, c[1]), roomy(run(1, 2), runs(0, 3, 3, 70))
			wholeA, wholeB, wholeL := slices.Clone(a[:cap(a)]), slices.Clone(b[:cap(b)]), slices.Clone(l[:cap(l)])
			got, again := call(a, b, l), call(a, b, l)
			if !slices.Equal(wholeA, a[:cap(a)]) || !slices.Equal(wholeB, b[:cap(b)]) || !slices.Equal(wholeL, l[:cap(l)]) {
				t.Errorf("5.7: %s changes what is handed in", name)
			}
			if !slices.Equal(got, again) {
				t.Errorf("P3: %s answers otherwise the second time", name)
			}
			if !apart(got, again) || !apart(got, a) || !apart(got, b) || !apart(got, l) {
				t.Errorf("5.7: %s answers memory that is not new", name)
			}
		}
	}
}

func TestRunsAreNewMemory(t *testing.T) {
	a := roomy(77, []uint64{5, all})
	l, again := Runs(a), Runs(a)
	if !apart(l, again) || !apart(l, a) || !slices.Equal(a[:cap(a)][:5], []uint64{5, all, 77, 77, 77}) {
		t.Error("5.7: Runs answers memory that is not new, or changes what is handed in")
	}
	s, _ := Print(a[:1], 3)
	other, _ := Print(a[:1], 3)
	if s != "101" || unsafe.StringData(s) == unsafe.StringData(other) {
		t.Errorf("5.7: Print answers %q twice in one place", s)
	}
	a = roomy(77, []uint64{15, 15})
	b := roomy(78, []uint64{6, 10})
	Meet(a, b)
	if !slices.Equal(a[:cap(a)][:5], []uint64{6, 10, 77, 77, 77}) || !slices.Equal(b[:cap(b)][:5], []uint64{6, 10, 78, 78, 78}) {
		t.Errorf("5.7: Meet leaves %v and %v", a[:cap(a)], b[:cap(b)])
	}
}

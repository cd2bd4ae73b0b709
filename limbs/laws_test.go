package limbs

import (
	"slices"
	"testing"

	"thicket/api"
)

// roomy is a list with spare room behind it, filled with a mark.
func roomy(a ...uint32) []uint32 {
	all := append(slices.Clone(a), 0xabcdef, 0xabcdef, 0xabcdef)
	return all[:len(a)]
}

// lists of an answer.
func of(l ...[]uint32) [][]uint32 { return l }

func ofRatio(r api.Ratio, _ api.Errno) [][]uint32 { return of(r.Num, r.Den) }

func first[T any](a []uint32, _ T) [][]uint32 { return of(a) }

// apart overwrites each list, spare room included, and looks whether another one changed.
func apart(t *testing.T, name string, lists [][]uint32) {
	t.Helper()
	for i, one := range lists {
		before := make([][]uint32, len(lists))
		for j, l := range lists {
			before[j] = slices.Clone(l[:cap(l)])
		}
		for k := range one[:cap(one)] {
			one[:cap(one)][k] ^= 0x55555555
		}
		for j, l := range lists {
			if j != i && !slices.Equal(before[j], l[:cap(l)]) {
				t.Errorf("1.8: %s: lists %d and %d share memory", name, i, j)
			}
		}
		for k := range one[:cap(one)] {
			one[:cap(one)][k] ^= 0x55555555
		}
	}
}

func TestNewMemory(t *testing.T) {
	calls := map[string]func(a, b []uint32) [][]uint32{
		"Norm":    func(a, _ []uint32) [][]uint32 { return of(Norm(a)) },
		"Add":     func(a, b []uint32) [][]uint32 { return of(Add(a, b)) },
		"Sub":     func(a, b []uint32) [][]uint32 { return first(Sub(a, b)) },
		"Mul":     func(a, b []uint32) [][]uint32 { return of(Mul(a, b)) },
		"DivMod":  func(a, b []uint32) [][]uint32 { q, r, _ := DivMod(a, b); return of(q, r) },
		"Pow":     func(a, _ []uint32) [][]uint32 { return first(Pow(a, 1)) },
		"Pow 3":   func(a, _ []uint32) [][]uint32 { return first(Pow(a, 3)) },
		"Gcd":     func(a, b []uint32) [][]uint32 { return of(Gcd(a, b)) },
		"Up":      func(a, _ []uint32) [][]uint32 { return first(Up(a, 0)) },
		"Up 40":   func(a, _ []uint32) [][]uint32 { return first(Up(a, 40)) },
		"Down":    func(a, _ []uint32) [][]uint32 { return first(Down(a, 0)) },
		"Down 33": func(a, _ []uint32) [][]uint32 { return first(Down(a, 33)) },
		"Over":    func(a, b []uint32) [][]uint32 { return ofRatio(Over(true, a, b)) },
		"Plus": func(a, b []uint32) [][]uint32 {
			return ofRatio(Plus(api.Ratio{Num: a, Den: b}, api.Ratio{Num: b, Den: a}))
		},
		"Minus": func(a, b []uint32) [][]uint32 {
			return ofRatio(Minus(api.Ratio{Num: a, Den: b}, api.Ratio{Num: b, Den: a}))
		},
		"Times": func(a, b []uint32) [][]uint32 {
			return ofRatio(Times(api.Ratio{Num: a, Den: b}, api.Ratio{Num: b, Den: a}))
		},
		"By": func(a, b []uint32) [][]uint32 {
			return ofRatio(By(api.Ratio{Num: a, Den: b}, api.Ratio{Num: b, Den: a}))
		},
		"none": func(a, b []uint32) [][]uint32 {
			r := api.Ratio{Num: a, Den: b}
			Small(a)
			Print(a)
			Cmp(a, b)
			Len(a)
			Bit(a, 1)
			Order(r, r)
			Write(r)
			Decimal(r, 5)
			return nil
		},
	}
	for name, call := range calls {
		for _, c := range [][2][]uint32{
			{nil, nil}, {roomy(), roomy(1)}, {roomy(1), roomy()}, {roomy(0, 0), roomy(5, 0)}, {roomy(7), roomy(2)}, {roomy(2), roomy(7)}, {roomy(1), roomy(1)},
			{roomy(5, 6, 7, 8, 0), roomy(1, 2, 0)}, {roomy(1, 2), roomy(5, 6, 7, 8, 9)}, {roomy(0, 0, 0, 4), roomy(0, 0, 0, 6)}, {roomy(3, 9, 27, 81), roomy(3, 9, 27, 81)},
		} {
			a, b := c[0], c[1]
			wholeA, wholeB := slices.Clone(a[:cap(a)]), slices.Clone(b[:cap(b)])
			got, again := call(a, b), call(a, b)
			if !slices.Equal(wholeA, a[:cap(a)]) || !slices.Equal(wholeB, b[:cap(b)]) {
				t.Errorf("1.8: %s changes what is handed in", name)
			}
			if !slices.EqualFunc(got, again, slices.Equal[[]uint32]) {
				t.Errorf("P3: %s answers otherwise the second time", name)
			}
			apart(t, name, append(append(got, again...), a, b))
		}
	}
	x, y := Whole(-5), Whole(-5)
	s, _, _ := Read("1")
	apart(t, "Whole", of(x.Num, x.Den, y.Num, y.Den, From(5), s))
}

func TestLawsOfNaturals(t *testing.T) {
	r := source()
	pairs(func(a, b []uint32) {
		c := someLimbs(r, 5)
		laws := map[string]bool{
			"a + b = b + a":             slices.Equal(Add(a, b), Add(b, a)),
			"a b = b a":                 slices.Equal(Mul(a, b), Mul(b, a)),
			"(a + b) + c = a + (b + c)": slices.Equal(Add(Add(a, b), c), Add(a, Add(b, c))),
			"(a b) c = a (b c)":         slices.Equal(Mul(Mul(a, b), c), Mul(a, Mul(b, c))),
			"a (b + c) = a b + a c":     slices.Equal(Mul(a, Add(b, c)), Add(Mul(a, b), Mul(a, c))),
		}
		back, _, _ := Read(Print(a))
		laws["Read(Print(a)) = a"] = slices.Equal(back, Norm(a))
		if d, why := Sub(a, b); why == api.OK {
			laws["(a - b) + b = a"] = slices.Equal(Add(d, b), Norm(a))
		}
		if q, rest, why := DivMod(a, b); why == api.OK {
			laws["q b + r = a"] = slices.Equal(Add(Mul(q, b), rest), Norm(a)) && Cmp(rest, b) < 0
		}
		for law, holds := range laws {
			if !holds {
				t.Fatalf("1.9: not %s of %v, %v, %v", law, a, b, c)
			}
		}
	})
}

// must is a quotient that has no error.
func must(r api.Ratio, why api.Errno) api.Ratio {
	if why != api.OK {
		panic(why)
	}
	return r
}

func same(a, b api.Ratio) bool {
	return a.Neg == b.Neg && slices.Equal(a.Num, b.Num) && slices.Equal(a.Den, b.Den)
}

func TestLawsOfRatios(t *testing.T) {
	c := ratio(true, 355, 113)
	ratios(func(a, b api.Ratio) {
		laws := map[string]bool{
			"a + b = b + a":             same(must(Plus(a, b)), must(Plus(b, a))),
			"a b = b a":                 same(must(Times(a, b)), must(Times(b, a))),
			"(a + b) + c = a + (b + c)": same(must(Plus(must(Plus(a, b)), c)), must(Plus(a, must(Plus(b, c))))),
			"(a b) c = a (b c)":         same(must(Times(must(Times(a, b)), c)), must(Times(a, must(Times(b, c))))),
			"a (b + c) = a b + a c":     same(must(Times(a, must(Plus(b, c)))), must(Plus(must(Times(a, b)), must(Times(a, c))))),
			"(a - b) + b = a":           same(must(Plus(must(Minus(a, b)), b)), must(Over(a.Neg, a.Num, a.Den))),
		}
		if q, why := By(a, b); why == api.OK {
			laws["a by b times b = a"] = same(must(Times(q, b)), must(Over(a.Neg, a.Num, a.Den)))
		}
		for law, holds := range laws {
			if !holds {
				t.Fatalf("1.9: not %s of %v, %v", law, a, b)
			}
		}
	})
}

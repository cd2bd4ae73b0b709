package rank

import (
	"fmt"
	"math"
	"math/rand/v2"
	"slices"
	"strings"
	"testing"

	"thicket/api"
	"thicket/limbs"
)

const (
	least = math.MinInt64
	most  = math.MaxInt64
)

func source() *rand.Rand { return rand.New(rand.NewPCG(27, 27)) }

func whole(l ...int64) []int64 { return l }

// hits are so many items of which those of these numbers are hit.
func hits(many int, items ...int) []bool {
	l := make([]bool, many)
	for _, item := range items {
		l[item] = true
	}
	return l
}

// repeated is one thing so many times.
func repeated[T any](v T, many int) []T { return slices.Repeat([]T{v}, many) }

// counted are the whole numbers from low on, so many.
func counted(low int64, many int) []int64 {
	l := make([]int64, many)
	for i := range l {
		l[i] = low + int64(i)
	}
	return l
}

func backwards[T any](l []T) []T {
	l = slices.Clone(l)
	slices.Reverse(l)
	return l
}

// isRightRatio tells whether a ratio is in lowest terms, as limbs has it.
func isRightRatio(r api.Ratio) bool {
	same, why := limbs.Over(r.Neg, r.Num, r.Den)
	return why == api.OK && same.Neg == r.Neg && slices.Equal(same.Num, r.Num) && slices.Equal(same.Den, r.Den)
}

// said is an answer as a text, with a mark where a ratio is not right, or something stands beside an error.
func said(r api.Ratio, why api.Errno) string {
	if why != api.OK {
		s := fmt.Sprint("error ", int(why))
		if r.Neg || r.Num != nil || r.Den != nil {
			s += " and something beside it"
		}
		return s
	}
	s, _ := limbs.Write(r)
	if !isRightRatio(r) {
		s += "?"
	}
	return s
}

func allSaid(l []api.Ratio, why api.Errno) string {
	if why != api.OK {
		s := fmt.Sprint("error ", int(why))
		if l != nil {
			s += " and something beside it"
		}
		return s
	}
	var out []string
	for _, r := range l {
		out = append(out, said(r, api.OK))
	}
	return strings.Join(out, " ")
}

func is(t *testing.T, what, got, want string) {
	t.Helper()
	if got != want {
		t.Errorf("%s: %s, not %s", what, got, want)
	}
}

func isOrder(t *testing.T, what string, scores []int64, want ...int) {
	t.Helper()
	if got := Order(scores); !slices.Equal(got, want) {
		t.Errorf("27.1: Order: %s: %v, not %v", what, got, want)
	}
}

func isRanks(t *testing.T, what string, scores []int64, want string) {
	t.Helper()
	is(t, "27.1: Ranks: "+what, allSaid(Ranks(scores), api.OK), want)
}

func isAuc(t *testing.T, what string, scores []int64, hit []bool, want string) {
	t.Helper()
	is(t, "27.2: Auc: "+what, said(Auc(scores, hit)), want)
}

func isPrecision(t *testing.T, what string, scores []int64, hit []bool, k int, want string) {
	t.Helper()
	is(t, fmt.Sprintf("27.2: Precision: %s at %d", what, k), said(Precision(scores, hit, k)), want)
}

func isAverage(t *testing.T, what string, scores []int64, hit []bool, want string) {
	t.Helper()
	is(t, "27.2: Average: "+what, said(Average(scores, hit)), want)
}

func isGain(t *testing.T, what string, scores, worth []int64, k int, want string) {
	t.Helper()
	is(t, fmt.Sprintf("27.3: Gain: %s at %d", what, k), said(Gain(scores, worth, k)), want)
}

func isShare(t *testing.T, what string, scores, worth []int64, k int, want string) {
	t.Helper()
	is(t, fmt.Sprintf("27.3: Share: %s at %d", what, k), said(Share(scores, worth, k)), want)
}

func isTau(t *testing.T, what string, a, b []int64, want string) {
	t.Helper()
	is(t, "27.4: Tau: "+what, said(Tau(a, b)), want)
	is(t, "27.4: Tau, the other way round: "+what, said(Tau(b, a)), want)
}

func isError(t *testing.T, what string, a, b []int64, want string) {
	t.Helper()
	is(t, "27.4: Error: "+what, said(Error(a, b)), want)
	is(t, "27.4: Error, the other way round: "+what, said(Error(b, a)), want)
}

func isPools(t *testing.T, what string, scores, seen []int64, want string) {
	t.Helper()
	is(t, "27.5: Pools: "+what, allSaid(Pools(scores, seen)), want)
}

func TestExamples(t *testing.T) {
	s := whole(3, 5, 3)
	isOrder(t, "example 1", s, 1, 0, 2)
	isRanks(t, "example 1", s, "5/2 1 5/2")
	isAuc(t, "example 2", s, hits(3, 0, 1), "3/4")
	isPrecision(t, "example 2", s, hits(3, 2), 2, "0")
	isPrecision(t, "example 2", s, hits(3, 2), 3, "1/3")
	isAverage(t, "example 2", s, hits(3, 1, 2), "5/6")
	isAuc(t, "example 2", whole(1, 2), hits(2), "error 270")
	isGain(t, "example 3", s, whole(1, 2, 6), 3, "9/2")
	isShare(t, "example 3", s, whole(1, 2, 6), 3, "27/44")
	isGain(t, "example 3", s, whole(1, 2, 6), 0, "0")
	isShare(t, "example 3", s, whole(1, 2, 6), 0, "error 270")
	isTau(t, "example 4", whole(1, 2, 3), whole(1, 3, 2), "1/3")
	isTau(t, "example 4", whole(1, 1), whole(1, 2), "0")
	isError(t, "example 4", whole(1, 2), whole(3, 2), "2")
	isPools(t, "example 5", whole(1, 2, 3, 4), whole(1, 3, 2, 2), "1 7/3 7/3 7/3")
	isPools(t, "example 5", whole(2, 1), whole(0, 1), "1/2 1/2")
	isPools(t, "example 5", whole(1, 1, 2), whole(0, 1, 1), "1/2 1/2 1")
}

func TestOrder(t *testing.T) {
	isOrder(t, "no item", nil)
	isOrder(t, "one item", whole(-7), 0)
	isOrder(t, "all alike", whole(4, 4, 4, 4), 0, 1, 2, 3)
	isOrder(t, "some alike", whole(1, 2, 1, 2, 3, 1), 4, 1, 3, 0, 2, 5)
	isOrder(t, "all different", whole(10, -30, 20, 0), 2, 0, 3, 1)
	isOrder(t, "at the ends", whole(least, most, 0, least, most), 1, 4, 2, 0, 3)
	isOrder(t, "falling", whole(3, 2, 1), 0, 1, 2)
	isOrder(t, "rising", whole(1, 2, 3), 2, 1, 0)
}

func TestRanks(t *testing.T) {
	isRanks(t, "no item", nil, "")
	isRanks(t, "one item", whole(9), "1")
	isRanks(t, "all different", whole(10, -30, 20, 0), "2 4 1 3")
	isRanks(t, "two alike: a half", whole(4, 4), "3/2 3/2")
	isRanks(t, "three alike: whole", whole(4, 4, 4), "2 2 2")
	isRanks(t, "halves and whole ones", whole(1, 2, 1, 2, 3, 1), "5 5/2 5 5/2 1 5")
	isRanks(t, "at the ends", whole(least, most, least, most), "7/2 3/2 7/2 3/2")
	isRanks(t, "many alike", repeated[int64](-1, 1000), strings.TrimSpace(strings.Repeat("1001/2 ", 1000)))
}

func TestAuc(t *testing.T) {
	isAuc(t, "no item", nil, nil, "error 270")
	isAuc(t, "one item, hit", whole(1), hits(1, 0), "error 270")
	isAuc(t, "one item, not hit", whole(1), hits(1), "error 270")
	isAuc(t, "each hit", whole(1, 2, 3), hits(3, 0, 1, 2), "error 270")
	isAuc(t, "none hit", whole(1, 2, 3), hits(3), "error 270")
	isAuc(t, "above", whole(2, 1), hits(2, 0), "1")
	isAuc(t, "below", whole(2, 1), hits(2, 1), "0")
	isAuc(t, "alike", whole(5, 5), hits(2, 1), "1/2")
	isAuc(t, "alike, the other one", whole(5, 5), hits(2, 0), "1/2")
	isAuc(t, "all alike", whole(5, 5, 5, 5, 5), hits(5, 1, 3), "1/2")
	isAuc(t, "one hit of four", whole(4, 3, 2, 1), hits(4, 1), "2/3")
	isAuc(t, "at the ends", whole(least, most, 0, most), hits(4, 1, 0), "3/8") // most above 0 and alike most; least above none
	isAuc(t, "all but one hit", whole(7, 6, 5, 4), hits(4, 0, 1, 3), "2/3")
}

func TestPrecision(t *testing.T) {
	s, h := whole(10, 40, 20, 30), hits(4, 1, 2)
	for k, want := range map[int]string{math.MinInt: "error 2", -1: "error 2", 0: "error 2", 1: "1", 2: "1/2", 3: "2/3", 4: "1/2", 5: "error 2", math.MaxInt: "error 2"} {
		isPrecision(t, "of four", s, h, k, want)
	}
	for _, k := range []int{-1, 0, 1} {
		isPrecision(t, "no item", nil, nil, k, "error 2")
	}
	isPrecision(t, "one item", whole(3), hits(1, 0), 1, "1")
	isPrecision(t, "one item", whole(3), hits(1), 1, "0")
	isPrecision(t, "one item", whole(3), hits(1), 2, "error 2")
	isPrecision(t, "alike: the first comes first", whole(3, 3), hits(2, 0), 1, "1")
	isPrecision(t, "alike: the first comes first", whole(3, 3), hits(2, 1), 1, "0")
	isPrecision(t, "none hit", s, hits(4), 3, "0")
	isPrecision(t, "each hit", s, hits(4, 0, 1, 2, 3), 3, "1")
	isPrecision(t, "at the ends", whole(least, most, least), hits(3, 1, 2), 2, "1/2")
}

func TestAverage(t *testing.T) {
	isAverage(t, "no item", nil, nil, "error 270")
	isAverage(t, "one item, not hit", whole(1), hits(1), "error 270")
	isAverage(t, "one item, hit", whole(1), hits(1, 0), "1")
	isAverage(t, "none hit", whole(1, 2, 3), hits(3), "error 270")
	isAverage(t, "each hit", whole(1, 2, 2), hits(3, 0, 1, 2), "1")
	isAverage(t, "the last hit", whole(4, 3, 2, 1), hits(4, 3), "1/4")
	isAverage(t, "the first hit", whole(4, 3, 2, 1), hits(4, 0), "1")
	isAverage(t, "at 2, 3 and 5", whole(5, 4, 3, 2, 1), hits(5, 1, 2, 4), "53/90") // (1/2 + 2/3 + 3/5) / 3
	isAverage(t, "all alike", whole(8, 8, 8), hits(3, 1), "1/2")
	isAverage(t, "at the ends", whole(least, most), hits(2, 0), "1/2")
}

func TestGain(t *testing.T) {
	s, w := whole(10, 40, 20, 30), whole(1, 2, 3, 4) // in the order: 2, 4, 3, 1
	for k, want := range map[int]string{math.MinInt: "error 2", -1: "error 2", 0: "0", 1: "2", 2: "4", 3: "5", 4: "21/4", 5: "error 2", math.MaxInt: "error 2"} {
		isGain(t, "of four", s, w, k, want)
	}
	isGain(t, "no item", nil, nil, -1, "error 2")
	isGain(t, "no item", nil, nil, 0, "0")
	isGain(t, "no item", nil, nil, 1, "error 2")
	isGain(t, "one item", whole(3), whole(-5), 0, "0")
	isGain(t, "one item", whole(3), whole(-5), 1, "-5")
	isGain(t, "one item", whole(3), whole(-5), 2, "error 2")
	isGain(t, "worths below 0", s, whole(-1, -2, -3, -4), 4, "-21/4")
	isGain(t, "worths on either side", whole(2, 1), whole(1, -2), 2, "0")
	isGain(t, "all 0", s, whole(0, 0, 0, 0), 4, "0")
	isGain(t, "the lowest ones", whole(2, 1), whole(least, least), 2, "-13835058055282163712")
	isGain(t, "the highest ones", whole(2, 1), whole(most, most), 2, "27670116110564327421/2")
	isGain(t, "both ends", whole(2, 1), whole(most, least), 2, "4611686018427387903")
	isGain(t, "scores at the ends", whole(least, most), whole(6, 8), 2, "11")
	isGain(t, "alike scores", whole(1, 1, 1), whole(6, 6, 6), 3, "11")
}

func TestShare(t *testing.T) {
	s, w := whole(10, 40, 20, 30), whole(1, 2, 3, 4) // the best: 4, 3, 2, 1
	for k, want := range map[int]string{-1: "error 2", 0: "error 270", 1: "1/2", 2: "8/11", 3: "30/37", 4: "9/11", 5: "error 2"} {
		isShare(t, "of four", s, w, k, want)
	}
	isShare(t, "no item", nil, nil, -1, "error 2")
	isShare(t, "no item", nil, nil, 0, "error 270")
	isShare(t, "no item", nil, nil, 1, "error 2")
	isShare(t, "one item", whole(-3), whole(7), 1, "1")
	isShare(t, "one item of no worth", whole(-3), whole(0), 1, "error 270")
	isShare(t, "all 0", s, whole(0, 0, 0, 0), 4, "error 270")
	isShare(t, "nothing gained", s, whole(1, 0, 0, 0), 3, "0")
	isShare(t, "a worth below 0", s, whole(5, 5, 5, -1), 4, "error 270")
	isShare(t, "a worth below 0 behind the first k", s, whole(-1, 5, 5, 5), 1, "error 270")
	isShare(t, "a worth at the lower end", s, whole(least, 5, 5, 5), 1, "error 270")
	isShare(t, "a worth below 0, and k out of range", s, whole(5, 5, 5, -1), 5, "error 2")
	isShare(t, "a worth below 0, and k out of range", s, whole(5, 5, 5, -1), -1, "error 2")
	isShare(t, "the best gain 0, and k out of range", s, whole(0, 0, 0, 0), 5, "error 2")
	isShare(t, "the best order", whole(5, 1, 3), whole(9, 0, 4), 3, "1")
	isShare(t, "worths at the upper end", whole(1, 2, 3), whole(most, most, most), 3, "1")
	isShare(t, "worths at the upper end, and 0", whole(1, 2), whole(most, 0), 2, "1/2")
}

func TestTau(t *testing.T) {
	isTau(t, "no item", nil, nil, "error 270")
	isTau(t, "one item", whole(1), whole(1), "error 270")
	isTau(t, "two, alike", whole(1, 2), whole(least, most), "1")
	isTau(t, "two, unlike", whole(1, 2), whole(most, least), "-1")
	isTau(t, "two, alike scores in both", whole(1, 1), whole(2, 2), "0")
	isTau(t, "all alike", whole(1, 2, 3, 4), whole(-5, 0, 7, 8), "1")
	isTau(t, "all unlike", whole(1, 2, 3, 4), whole(8, 7, 0, -5), "-1")
	isTau(t, "alike scores in one list", whole(1, 1, 2, 2), whole(1, 2, 3, 4), "2/3")
	isTau(t, "alike scores in one list, unlike", whole(2, 2, 1, 1), whole(1, 2, 3, 4), "-2/3")
	isTau(t, "alike scores in both lists", whole(1, 1, 2, 2), whole(1, 2, 1, 2), "0")
	isTau(t, "alike scores in both lists", whole(1, 1, 2, 2), whole(1, 2, 2, 2), "1/3")
	isTau(t, "no pair either way", whole(1, 1, 1), whole(3, 1, 2), "0")
	isTau(t, "with itself", whole(5, 3, 3, 9), whole(5, 3, 3, 9), "5/6")
	isTau(t, "as many alike as unlike", whole(1, 2, 3, 4), whole(2, 4, 1, 3), "0")
}

func TestError(t *testing.T) {
	isError(t, "no item", nil, nil, "error 270")
	isError(t, "one item", whole(5), whole(-2), "49")
	isError(t, "the same", whole(5, least, most), whole(5, least, most), "0")
	isError(t, "a quotient", whole(1, 2, 3), whole(1, 1, 1), "5/3")
	isError(t, "2^64 - 1 apart", whole(least), whole(most), "340282366920938463426481119284349108225")
	isError(t, "2^64 - 1 apart, many times", repeated[int64](least, 1000), repeated[int64](most, 1000), "340282366920938463426481119284349108225")
	isError(t, "2^64 - 1 apart, and the same", whole(least, 0), whole(most, 0), "340282366920938463426481119284349108225/2")
	isError(t, "2^63 apart", whole(least), whole(0), "85070591730234615865843651857942052864")
	isError(t, "a square beyond an int64", whole(1<<32), whole(0), "18446744073709551616")
}

func TestPools(t *testing.T) {
	isPools(t, "no items", nil, nil, "")
	isPools(t, "one item", whole(5), whole(-7), "-7")
	isPools(t, "one pool of alike scores", whole(5, 5, 5), whole(1, 2, 4), "7/3 7/3 7/3")
	isPools(t, "rising: nothing is made one", whole(1, 2, 3), whole(-4, 0, 9), "-4 0 9")
	isPools(t, "alike values stay as they are", whole(1, 2, 3), whole(4, 4, 4), "4 4 4")
	isPools(t, "all made one", whole(1, 2, 3), whole(9, 0, -4), "5/3 5/3 5/3")
	isPools(t, "scores out of order", whole(30, 10, 20), whole(9, -4, 0), "9 -4 0")
	isPools(t, "alike scores whose items stand apart", whole(1, 2, 1, 2, 1), whole(0, 10, 3, 20, 0), "1 15 1 15 1")
	isPools(t, "alike scores whose items stand apart, made one", whole(2, 1, 2, 1, 3), whole(0, 10, 3, 20, 9), "33/4 33/4 33/4 33/4 9")
	isPools(t, "alike scores whose items stand apart, made one twice", whole(2, 1, 2, 1, 3), whole(0, 10, 3, 20, 7), "8 8 8 8 8")
	isPools(t, "below 0", whole(1, 2, 3), whole(-1, -2, -4), "-7/3 -7/3 -7/3")
	isPools(t, "a pool that is 0", whole(1, 2), whole(5, -5), "0 0")
	isPools(t, "scores and numbers at the ends", whole(least, most), whole(least, most), "-9223372036854775808 9223372036854775807")
	isPools(t, "numbers at the ends, made one", whole(least, most), whole(most, least), "-1/2 -1/2")
	isPools(t, "sums beyond an int64", whole(1, 1, 1, 2), whole(most, most, most, most), "9223372036854775807 9223372036854775807 9223372036854775807 9223372036854775807")
	isPools(t, "sums below an int64", whole(1, 1, 2, 2), whole(least, least+1, least, least), strings.TrimSpace(strings.Repeat("-36893488147419103231/4 ", 4)))
	isPools(t, "a step down far behind", whole(1, 2, 3, 4, 5), whole(1, 2, 3, 4, -10), "0 0 0 0 0")
	isPools(t, "a step down not so far", whole(1, 2, 3, 4, 5), whole(1, 2, 3, 4, 0), "1 2 7/3 7/3 7/3")
}

// Pools that are made one in a long chain: one by one from behind, or all of them by the last one.
func TestChains(t *testing.T) {
	const many = 3000
	same := func(v string) string { return strings.TrimSpace(strings.Repeat(v+" ", many)) }
	isPools(t, "falling", counted(0, many), backwards(counted(1, many)), same("3001/2"))
	isPools(t, "rising scores, backwards", backwards(counted(0, many)), counted(1, many), same("3001/2"))
	isPools(t, "rising, and one below all at the end", counted(0, many), append(counted(1, many-1), -(many-1)*many/2), same("0"))
	isPools(t, "one above all at the beginning", counted(0, many), append([]int64{many * many}, repeated[int64](0, many-1)...), same("3000"))
	var rising []string
	for i := range int64(many) {
		rising = append(rising, fmt.Sprint(i))
	}
	isPools(t, "rising", counted(0, many), counted(0, many), strings.Join(rising, " "))
}

// Where two lists have unlike numbers of items, that is told, whatever else is wrong.
func TestUnlikeLists(t *testing.T) {
	for _, c := range []struct{ a, b []int64 }{
		{nil, whole(1)}, {whole(1), nil}, {whole(1, 2), whole(1)}, {whole(1), whole(-1, 0)}, {whole(), whole(-5)}, {whole(0, 0, 0), whole(0, 0)}, {counted(0, 1000), counted(0, 999)},
	} {
		for _, h := range [][]bool{make([]bool, len(c.b)), repeated(true, len(c.b))} { // no item is hit, or each
			is(t, "27.2: Auc of unlike lists", said(Auc(c.a, h)), "error 6")
			is(t, "27.2: Average of unlike lists", said(Average(c.a, h)), "error 6")
			for _, k := range []int{-1, 0, 1, 2, len(c.a), len(c.b), 2000, math.MinInt} {
				is(t, "27.2: Precision of unlike lists", said(Precision(c.a, h, k)), "error 6")
				is(t, "27.3: Gain of unlike lists", said(Gain(c.a, c.b, k)), "error 6")
				is(t, "27.3: Share of unlike lists", said(Share(c.a, c.b, k)), "error 6")
			}
		}
		is(t, "27.4: Tau of unlike lists", said(Tau(c.a, c.b)), "error 6")
		is(t, "27.4: Error of unlike lists", said(Error(c.a, c.b)), "error 6")
		is(t, "27.5: Pools of unlike lists", allSaid(Pools(c.a, c.b)), "error 6")
	}
}

// Long lists, whose answers are known: counts of pairs beyond 2^32, sums of quotients with great denominators.
func TestLongLists(t *testing.T) {
	const many = 200000
	up, half := counted(-many/2, many), make([]bool, many)
	for i := range many / 2 {
		half[i] = true
	}
	if got := Order(up); !slices.Equal(got[:3], []int{many - 1, many - 2, many - 3}) || len(got) != many {
		t.Error("27.1: Order of a long list")
	}
	if got := Order(repeated[int64](7, many)); !slices.IsSorted(got) || len(got) != many {
		t.Error("27.1: Order of a long list of alike scores")
	}
	is(t, "27.1: Ranks of a long list", said(Ranks(repeated[int64](7, many))[many-1], api.OK), "200001/2")
	isAuc(t, "a long list", up, half, "0")
	isAuc(t, "a long list, backwards", backwards(up), half, "1")
	isAuc(t, "a long list of alike scores", repeated[int64](7, many), half, "1/2")
	isPrecision(t, "a long list", up, half, many, "1/2")
	isPrecision(t, "a long list", backwards(up), half, many/2, "1")
	isAverage(t, "a long list", backwards(up), half, "1")
	isTau(t, "a long list", up, up, "1")
	isTau(t, "a long list, backwards", up, backwards(up), "-1")
	isTau(t, "a long list, but for two neighbours", up, append(whole(up[1], up[0]), up[2:]...), "9999949999/9999950000")
	isError(t, "a long list", repeated[int64](least, many), repeated[int64](most, many), "340282366920938463426481119284349108225")
	l, why := Pools(up, backwards(up))
	if len(l) != many || said(l[0], why) != "-1/2" || said(l[many-1], why) != "-1/2" {
		t.Error("27.5: Pools of a long list")
	}
	worth := counted(1, 2000)
	isGain(t, "a long list", backwards(worth), worth, 2000, "2000") // each worth is its place
	isGain(t, "a long list, the first of it", backwards(worth), worth, 1999, "1999")
}

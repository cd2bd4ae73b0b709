package learn

import (
	"math"
	"math/rand/v2"
	"reflect"
	"slices"
	"strconv"
	"testing"

	"thicket/api"
	"thicket/limbs"
	"thicket/rules"
	"thicket/trees"
)

const (
	left  = api.SideLeft
	right = api.SideRight
)

var (
	nan     = math.NaN()
	endless = math.Inf(1)
	minus0  = math.Copysign(0, -1)
)

func source() *rand.Rand { return rand.New(rand.NewPCG(26, 26)) }

func leafOf(v int64) api.Node { return api.Node{Kind: api.NodeLeaf, Value: v} }

func leaf(v int64) api.Tree { return api.Tree{Nodes: []api.Node{leafOf(v)}} }

// stump asks for a feature whether a number is at most v.
func stump(feature int, v float64, missing api.Side, l, r int64) api.Tree {
	return api.Tree{Nodes: []api.Node{{Kind: api.NodeNumber, Feature: feature, Threshold: v, Missing: missing, Left: 1, Right: 2}, leafOf(l), leafOf(r)}}
}

// vectors have one number each.
func vectors(l ...float64) [][]float64 {
	var all [][]float64
	for _, v := range l {
		all = append(all, []float64{v})
	}
	return all
}

func whole(l ...int64) []int64 { return l }

func at(l ...float64) []float64 { return l }

// plan is a lesson that goes the whole way, with leaves of one row.
func plan(trees, deep int) api.Lesson {
	return api.Lesson{Trees: trees, Deep: deep, Least: 1, Num: 1, Den: 1}
}

// rate is a lesson that goes a part of the way.
func rate(p api.Lesson, num, den int64) api.Lesson {
	p.Num, p.Den = num, den
	return p
}

func least(p api.Lesson, n int) api.Lesson {
	p.Least = n
	return p
}

// isRightRatio tells whether a ratio is in lowest terms, as limbs has it.
func isRightRatio(r api.Ratio) bool {
	same, why := limbs.Over(r.Neg, r.Num, r.Den)
	return why == api.OK && same.Neg == r.Neg && slices.Equal(same.Num, r.Num) && slices.Equal(same.Den, r.Den)
}

func said(r api.Ratio) string {
	s, _ := limbs.Write(r)
	if !isRightRatio(r) {
		s += "?"
	}
	return s
}

// isBest holds a choice; the threshold by its bits, as no -0 may be answered.
func isBest(t *testing.T, what string, l [][]float64, rest []int64, least, feature int, threshold float64, missing api.Side, left int, gain string) {
	t.Helper()
	c, ok, why := Best(l, rest, least)
	if why != api.OK || !ok || c.Feature != feature || math.Float64bits(c.Threshold) != math.Float64bits(threshold) || c.Missing != missing || c.Left != left || said(c.Gain) != gain {
		t.Errorf("P26.1: %s: %d, %v, %d, %d, %s; %v, %d", what, c.Feature, c.Threshold, c.Missing, c.Left, said(c.Gain), ok, why)
	}
}

func noBest(t *testing.T, what string, l [][]float64, rest []int64, least int, want api.Errno) {
	t.Helper()
	c, ok, why := Best(l, rest, least)
	if ok || why != want {
		t.Errorf("P26.1: %s: %v, %v, %d, not %d", what, c, ok, why, want)
	}
	if !reflect.DeepEqual(c, api.Choice{}) {
		t.Errorf("P2: Best: %s: %v where there is none", what, c)
	}
}

func isGrown(t *testing.T, what string, l [][]float64, rest []int64, p api.Lesson, want api.Tree) {
	t.Helper()
	if g, why := Grow(l, rest, p); why != api.OK || !trees.Alike(g, want) {
		t.Errorf("P26.2: %s: %v, %d, not %v", what, g, why, want)
	}
}

func noGrow(t *testing.T, what string, l [][]float64, rest []int64, p api.Lesson, want api.Errno) {
	t.Helper()
	g, why := Grow(l, rest, p)
	if why != want {
		t.Errorf("P26.2: %s: %d, not %d", what, why, want)
	}
	if !reflect.DeepEqual(g, api.Tree{}) {
		t.Errorf("P2: Grow: %s: %v beside an error", what, g)
	}
}

// noFit holds that Fit and Curve refuse the same.
func noFit(t *testing.T, what string, l [][]float64, targets []int64, p api.Lesson, want api.Errno) {
	t.Helper()
	e, why := Fit(l, targets, p)
	if why != want {
		t.Errorf("P26.3: %s: %d, not %d", what, why, want)
	}
	if !reflect.DeepEqual(e, api.Ensemble{}) {
		t.Errorf("P2: Fit: %s: %v beside an error", what, e)
	}
	curve, why := Curve(l, targets, p)
	if why != want {
		t.Errorf("P26.4: Curve: %s: %d, not %d", what, why, want)
	}
	if curve != nil {
		t.Errorf("P2: Curve: %s: %v beside an error", what, curve)
	}
}

// isFit holds an ensemble's base and trees, and each number of the curve.
func isFit(t *testing.T, what string, l [][]float64, targets []int64, p api.Lesson, base int64, curve []string, want ...api.Tree) {
	t.Helper()
	e := api.Ensemble{Name: "learned", Outputs: 1, Base: []int64{base}, Trees: want}
	for i := range l[0] {
		e.Features = append(e.Features, "f"+strconv.Itoa(i))
	}
	got, why := Fit(l, targets, p)
	if why != api.OK || !trees.Same(got, e) {
		t.Errorf("P26.3: %s: %v, %d, not %v", what, got, why, e)
	}
	losses, why := Curve(l, targets, p)
	var texts []string
	for _, n := range losses {
		texts = append(texts, limbs.Print(n))
	}
	if why != api.OK || !slices.Equal(texts, curve) {
		t.Errorf("P26.4: Curve: %s: %v, %d, not %v", what, texts, why, curve)
	}
}

func isLoss(t *testing.T, what string, e api.Ensemble, l [][]float64, targets []int64, want string) {
	t.Helper()
	n, why := Loss(e, l, targets)
	if why != api.OK || limbs.Print(n) != want || !slices.Equal(n, limbs.Norm(n)) {
		t.Errorf("P26.4: Loss: %s: %v, %s, %d, not %s", what, n, limbs.Print(n), why, want)
	}
}

func noLoss(t *testing.T, what string, e api.Ensemble, l [][]float64, targets []int64, want api.Errno) {
	t.Helper()
	n, why := Loss(e, l, targets)
	if why != want {
		t.Errorf("P26.4: Loss: %s: %d, not %d", what, why, want)
	}
	if n != nil {
		t.Errorf("P2: Loss: %s: %v beside an error", what, n)
	}
}

func TestExamples(t *testing.T) {
	l := vectors(1, 2, 3)
	isBest(t, "example 1", l, whole(0, 0, 6), 1, 0, 2, left, 2, "24")
	noBest(t, "example 1", l, whole(0, 0, 6), 2, api.OK)
	noBest(t, "example 1", vectors(1, 1), whole(1, -1), 1, api.OK)
	isBest(t, "example 2", vectors(nan, 5), whole(4, 0), 1, 0, 5, right, 1, "8")
	isGrown(t, "example 3", l, whole(0, 0, 6), api.Lesson{Deep: 1, Least: 1, Num: 1, Den: 2}, stump(0, 2, left, 0, 3))
	p := plan(1, 1)
	isFit(t, "example 4", vectors(1, 2), whole(0, 1000000), p, 500000, []string{"500000000000", "0"}, stump(0, 1, left, -500000, 500000))
	noFit(t, "example 5", vectors(1, 2), whole(0, 1000000), rate(p, 1, 0), api.ErrPlan)
	noFit(t, "example 5", vectors(1, 2), whole(0, 1<<41), p, api.ErrRange)
	noFit(t, "example 5", nil, nil, p, api.ErrSize)
}

// lossless is an ensemble that trees.Score takes, of so many features.
func lossless(features int) api.Ensemble {
	e := api.Ensemble{Name: "m", Outputs: 1, Base: []int64{0}}
	for i := range features {
		e.Features = append(e.Features, "f"+strconv.Itoa(i))
	}
	return e
}

// refused holds rows that no call takes.
func refused(t *testing.T, what string, l [][]float64, numbers []int64, want api.Errno) {
	t.Helper()
	wrong := api.Lesson{Trees: -1}
	for _, least := range []int{1, 0} { // what else is wrong does not matter
		noBest(t, what, l, numbers, least, want)
	}
	for _, p := range []api.Lesson{plan(1, 1), wrong} {
		noGrow(t, what, l, numbers, p, want)
		noFit(t, what, l, numbers, p, want)
	}
	noLoss(t, what, lossless(1), l, numbers, want)
	noLoss(t, what, api.Ensemble{}, l, numbers, want)
}

// taken holds rows that each call takes.
func taken(t *testing.T, what string, l [][]float64, numbers []int64) {
	t.Helper()
	p := rate(plan(1, 1), 1, 2)
	if _, _, why := Best(l, numbers, 1); why != api.OK {
		t.Errorf("P26.1: %s: %d", what, why)
	}
	if _, why := Grow(l, numbers, p); why != api.OK {
		t.Errorf("P26.2: %s: %d", what, why)
	}
	e, why := Fit(l, numbers, p)
	if why != api.OK || !rules.Valid(e) || len(e.Features) != len(l[0]) {
		t.Errorf("P26.3: %s: %d", what, why)
	}
	if _, why := Loss(e, l, numbers); why != api.OK {
		t.Errorf("P26.4: Loss: %s: %d", what, why)
	}
	if _, why := Curve(l, numbers, p); why != api.OK {
		t.Errorf("P26.4: Curve: %s: %d", what, why)
	}
}

func TestRowsError(t *testing.T) {
	full, zeros := slices.Repeat(vectors(1), api.MaxRows+1), make([]int64, api.MaxRows+2)
	full[7] = at(2) // not all alike
	zeros[7] = 5
	refused(t, "no vector", nil, nil, api.ErrSize)
	refused(t, "an empty list", [][]float64{}, []int64{}, api.ErrSize)
	refused(t, "no vector, a number", nil, whole(1), api.ErrSize)
	refused(t, "a vector, no number", vectors(1), nil, api.ErrSize)
	refused(t, "fewer numbers", vectors(1, 2, 3), whole(1, 2), api.ErrSize)
	refused(t, "more numbers", vectors(1, 2, 3), whole(1, 2, 3, 4), api.ErrSize)
	refused(t, "one vector more than MaxRows", full, zeros[:api.MaxRows+1], api.ErrSize)
	refused(t, "one number more than MaxRows", full[:api.MaxRows], zeros[:api.MaxRows+1], api.ErrSize)
	taken(t, "MaxRows", full[:api.MaxRows], zeros[:api.MaxRows])
	taken(t, "one vector", vectors(1), whole(1))

	refused(t, "a first vector with no number", [][]float64{nil}, whole(1), api.ErrVector)
	refused(t, "vectors with no number", [][]float64{{}, {}}, whole(1, 2), api.ErrVector)
	refused(t, "a first vector alone with no number", [][]float64{{}, {1}}, whole(1, 2), api.ErrVector)
	refused(t, "a longer one", [][]float64{{1}, {1, 2}}, whole(1, 2), api.ErrVector)
	refused(t, "a shorter one", [][]float64{{1, 2}, {1, 2}, {1}}, whole(1, 2, 3), api.ErrVector)
	refused(t, "one with no number", [][]float64{{1, 2}, nil, {1, 2}}, whole(1, 2, 3), api.ErrVector)
	wide := make([]float64, api.MaxFeatures+1)
	refused(t, "one feature more than MaxFeatures", [][]float64{wide, wide}, whole(1, 2), api.ErrVector)
	taken(t, "MaxFeatures", [][]float64{wide[1:], wide[:api.MaxFeatures]}, whole(1, 2))
	high := slices.Clone(wide[1:])
	high[api.MaxFeatures-1] = 1
	isBest(t, "the last of MaxFeatures", [][]float64{wide[1:], high}, whole(1, 3), 1, api.MaxFeatures-1, 0, left, 1, "2")

	// Several errors at once.
	refused(t, "too few numbers, unlike vectors, a great number", [][]float64{{1}, nil}, whole(math.MinInt64), api.ErrSize)
	refused(t, "unlike vectors, a great number", [][]float64{{1}, nil}, whole(0, math.MaxInt64), api.ErrVector)
	refused(t, "no number, a great one", [][]float64{nil, nil}, whole(math.MinInt64, 0), api.ErrVector)
	for _, v := range []int64{api.MaxRest + 1, -api.MaxRest - 1, math.MaxInt64, math.MinInt64} {
		refused(t, "a great number", vectors(1, 2), whole(0, v), api.ErrRange)
		refused(t, "a great number ahead", vectors(1, 2), whole(v, 0), api.ErrRange)
	}
}

func TestAmounts(t *testing.T) {
	for _, sign := range []int64{1, -1} {
		l, most := vectors(1, 2), whole(0, sign*api.MaxRest)
		isBest(t, "MaxRest", l, most, 1, 0, 1, left, 1, "2475880078570760549798248448") // 2^91
		isGrown(t, "MaxRest", l, most, plan(0, 1), stump(0, 1, left, 0, sign*api.MaxRest))
		noBest(t, "one more", l, whole(0, sign*(api.MaxRest+1)), 1, api.ErrRange)
		noGrow(t, "one more", l, whole(0, sign*(api.MaxRest+1)), plan(0, 1), api.ErrRange)
		noFit(t, "MaxRest as a target", l, most, plan(0, 1), api.ErrRange)
		noLoss(t, "MaxRest as a target", lossless(1), l, most, api.ErrRange)

		isFit(t, "MaxTarget", l, whole(0, sign*api.MaxTarget), plan(1, 1), sign*api.MaxTarget/2, []string{"604462909807314587353088", "0"}, stump(0, 1, left, -sign*api.MaxTarget/2, sign*api.MaxTarget/2)) // 2^79
		noFit(t, "one more", l, whole(0, sign*(api.MaxTarget+1)), plan(1, 1), api.ErrRange)
		isLoss(t, "MaxTarget", lossless(1), l, whole(0, sign*api.MaxTarget), "1208925819614629174706176")
		noLoss(t, "one more", lossless(1), l, whole(0, sign*(api.MaxTarget+1)), api.ErrRange)
		taken(t, "MaxTarget", l, whole(-sign*api.MaxTarget, sign*api.MaxTarget))
	}
	// MaxRows rests of MaxRest: their sum is 2^62, its square beyond a word by far.
	var l [][]float64
	var rest []int64
	for i := range api.MaxRows {
		l, rest = append(l, at(float64(i/2))), append(rest, api.MaxRest)
	}
	noBest(t, "all at MaxRest", l, rest, 1, api.OK)
	rest[api.MaxRows-1]--
	isBest(t, "all but one", l, rest, 1, 0, api.MaxRows/2-2, left, api.MaxRows-2, "32767/65536")
	for i := range rest[:api.MaxRows/2] {
		rest[i] = -rest[i]
	}
	c, ok, why := Best(l, rest, 1)
	if why != api.OK || !ok || c.Left != api.MaxRows/2 || c.Threshold != api.MaxRows/4-1 || !isRightRatio(c.Gain) || limbs.Len(c.Gain.Num) < 108 {
		t.Error("P26.1: half below, half above:", c, ok, why)
	}
}

func TestPlans(t *testing.T) {
	l, y := vectors(1, 2), whole(0, 10)
	wrong := map[string]api.Lesson{
		"nothing":         {},
		"Trees below":     {Trees: -1, Deep: 1, Least: 1, Num: 1, Den: 1},
		"Trees above":     {Trees: api.MaxRounds + 1, Deep: 1, Least: 1, Num: 1, Den: 1},
		"Deep below":      {Trees: 1, Deep: -1, Least: 1, Num: 1, Den: 1},
		"Deep above":      {Trees: 1, Deep: api.MaxDeep + 1, Least: 1, Num: 1, Den: 1},
		"Least at 0":      {Trees: 1, Deep: 1, Least: 0, Num: 1, Den: 1},
		"Least below":     {Trees: 1, Deep: 1, Least: math.MinInt, Num: 1, Den: 1},
		"Num at 0":        {Trees: 1, Deep: 1, Least: 1, Num: 0, Den: 1},
		"Num below":       {Trees: 1, Deep: 1, Least: 1, Num: -1, Den: 1},
		"both below":      {Trees: 1, Deep: 1, Least: 1, Num: -1, Den: -1},
		"Den at 0":        {Trees: 1, Deep: 1, Least: 1, Num: 1, Den: 0},
		"Den below Num":   {Trees: 1, Deep: 1, Least: 1, Num: 3, Den: 2},
		"Den above":       {Trees: 1, Deep: 1, Least: 1, Num: 1, Den: api.MaxDen + 1},
		"both above":      {Trees: 1, Deep: 1, Least: 1, Num: api.MaxDen + 1, Den: api.MaxDen + 1},
		"the least":       {Trees: math.MinInt, Deep: math.MinInt, Least: 1, Num: math.MinInt64, Den: math.MinInt64},
		"the greatest":    {Trees: math.MaxInt, Deep: math.MaxInt, Least: math.MaxInt, Num: math.MaxInt64, Den: math.MaxInt64},
		"Den as the most": {Trees: 1, Deep: 1, Least: 1, Num: 1, Den: math.MaxInt64},
	}
	for what, p := range wrong {
		noGrow(t, what, l, y, p, api.ErrPlan)
		noFit(t, what, l, y, p, api.ErrPlan)
	}
	isGrown(t, "Trees at MaxRounds", l, y, plan(api.MaxRounds, 1), stump(0, 1, left, 0, 10))
	isGrown(t, "Deep at 0", l, y, plan(0, 0), leaf(5))
	isGrown(t, "Deep at MaxDeep", l, y, plan(0, api.MaxDeep), stump(0, 1, left, 0, 10))
	isGrown(t, "Least at 2", l, y, least(plan(0, 5), 2), leaf(5))
	isGrown(t, "Least as the most", l, y, least(plan(0, 5), math.MaxInt), leaf(5))
	isGrown(t, "Den at Num", l, y, rate(plan(0, 1), api.MaxDen, api.MaxDen), stump(0, 1, left, 0, 10))
	isGrown(t, "Num below MaxDen", l, whole(0, 1<<20), rate(plan(0, 1), api.MaxDen-1, api.MaxDen), stump(0, 1, left, 0, 1<<20-1))
	isGrown(t, "Den at MaxDen", l, whole(0, 3<<20), rate(plan(0, 1), 1, api.MaxDen), stump(0, 1, left, 0, 3))
	isFit(t, "Trees at 0", l, y, plan(0, 1), 5, []string{"50"})
	isFit(t, "Deep at 0", l, y, plan(2, 0), 5, []string{"50", "50", "50"}, leaf(0), leaf(0))
	e, why := Fit(l, y, rate(plan(api.MaxRounds, 1), 1, 2))
	curve, no := Curve(l, y, rate(plan(api.MaxRounds, 1), 1, 2))
	if why != api.OK || no != api.OK || len(e.Trees) != api.MaxRounds || len(curve) != api.MaxRounds+1 || limbs.Print(curve[0]) != "50" {
		t.Error("P26.3: MaxRounds:", why, no, len(e.Trees), len(curve))
	}
}

func TestLeast(t *testing.T) {
	l, y := vectors(1, 2, 3, 4), whole(9, 0, 0, 0)
	for _, n := range []int{-1, 0, math.MinInt} {
		noBest(t, "least below 1", l, y, n, api.ErrRange)
		noBest(t, "a wrong row comes first", l, y[1:], n, api.ErrSize)
	}
	isBest(t, "least 1", l, y, 1, 0, 1, left, 1, "243/4")
	isBest(t, "half the rows", l, y, 2, 0, 2, left, 2, "81/4")
	for _, n := range []int{3, 4, 5, math.MaxInt} {
		noBest(t, "more than half", l, y, n, api.OK)
	}
	isBest(t, "the middle of three", vectors(1, 2, 3, 4, 5), whole(0, 0, 9, 9, 9), 2, 0, 2, left, 2, "486/5")
	noBest(t, "not half of an odd number", vectors(1, 2, 3, 4, 5), whole(0, 0, 9, 9, 9), 3, api.OK)
	// Rows with one number stay together: what least asks for can fail by that.
	noBest(t, "rows that stay together", vectors(1, 2, 2, 2), whole(9, 0, 0, 0), 2, api.OK)
	isBest(t, "rows that stay together", vectors(1, 2, 2, 3), whole(0, 0, 9, 9), 1, 0, 1, left, 1, "27")
}

func TestAlike(t *testing.T) {
	// By feature: the least one, wherever the workers take it.
	for features := 1; features < 40; features++ {
		row := func(v float64) []float64 { return slices.Repeat(at(v), features) }
		l := [][]float64{row(1), row(2), row(3)}
		isBest(t, "by feature", l, whole(0, 0, 6), 1, 0, 2, left, 2, "24")
		l[0][0], l[1][0], l[2][0] = 7, 7, 7 // the first one can not part them
		if features > 1 {
			isBest(t, "by feature", l, whole(0, 0, 6), 1, 1, 2, left, 2, "24")
		}
	}
	isBest(t, "the other way round", [][]float64{{1, 9}, {2, 5}}, whole(0, 4), 1, 0, 1, left, 1, "8")
	isBest(t, "a later one that gains more", [][]float64{{1, 1}, {2, 2}, {2, 3}}, whole(0, 0, 6), 1, 1, 2, left, 2, "24")
	isBest(t, "other heaps, the same gain", [][]float64{{2, 1}, {1, 2}, {2, 2}}, whole(4, 4, -8), 1, 0, 1, left, 1, "24")

	// 4^2 / 6 + 10^2 / 3 and 6^2 / 1 + 0 / 8 are alike, though rounded down the parts of the first one add up to less.
	var uneven [][]float64
	for row := range 9 {
		uneven = append(uneven, at(2, 2))
		if row < 3 {
			uneven[row][0] = 1
		}
	}
	uneven[0][1] = 1
	isBest(t, "parts that are rounded", uneven, whole(-6, -2, -2, 4, 0, 0, 0, 0, 0), 1, 0, 1, left, 3, "32")

	// By threshold: the least one.
	isBest(t, "by threshold", vectors(1, 2, 3), whole(3, 0, 3), 1, 0, 1, left, 1, "3/2")
	isBest(t, "by threshold", vectors(3, 2, 1), whole(3, 0, 3), 1, 0, 1, left, 1, "3/2")
	isBest(t, "by threshold", vectors(1, 2, 3, 4), whole(1, -1, -1, 1), 1, 0, 1, left, 1, "4/3")
	isBest(t, "by threshold, below nought", vectors(-5, -7, -6), whole(3, 3, 0), 1, 0, -7, left, 1, "3/2")

	// By side: left ahead of right.
	isBest(t, "no NaN", vectors(1, 2), whole(0, 4), 1, 0, 1, left, 1, "8")
	isBest(t, "by side", vectors(1, 2, nan, nan), whole(0, 4, 0, 4), 1, 0, 1, left, 3, "16/3")
	isBest(t, "by side", vectors(1, nan, 2), whole(0, 2, 4), 1, 0, 1, left, 2, "6")
	isBest(t, "a threshold comes ahead of a side", vectors(1, nan, 2), whole(4, 0, 0), 1, 0, 1, right, 1, "32/3")
}

func TestNumbers(t *testing.T) {
	isBest(t, "NaN left", vectors(1, nan, 3), whole(0, 0, 6), 1, 0, 1, left, 2, "24")
	isBest(t, "NaN right", vectors(1, nan, 3), whole(0, 6, 6), 1, 0, 1, right, 1, "24")
	isBest(t, "NaN alone on the right", vectors(1, nan, 3), whole(0, 6, 0), 1, 0, 3, right, 2, "24")
	isBest(t, "several NaN", vectors(nan, 1, nan), whole(5, -5, 5), 1, 0, 1, right, 1, "200/3")
	noBest(t, "least rows, NaN counted", vectors(nan, 1, nan), whole(5, -5, 5), 2, api.OK)
	isBest(t, "least rows, NaN counted", vectors(nan, 1, nan, 2), whole(5, -5, 5, -5), 2, 0, 2, right, 2, "100")
	noBest(t, "all NaN", vectors(nan, nan, math.Float64frombits(0xFFF8000000000001)), whole(1, 2, 3), 1, api.OK)
	noBest(t, "all NaN in each feature", [][]float64{{nan, nan}, {nan, nan}}, whole(1, 2), 1, api.OK)
	isBest(t, "all NaN in one feature", [][]float64{{nan, 1}, {nan, 2}}, whole(1, 3), 1, 1, 1, left, 1, "2")
	noBest(t, "all alike", vectors(3, 3, 3), whole(1, 2, 3), 1, api.OK)
	noBest(t, "all at an infinity", vectors(endless, endless), whole(1, 2), 1, api.OK)
	noBest(t, "noughts are one", vectors(0, minus0), whole(1, 9), 1, api.OK)
	isBest(t, "a nought as 0", vectors(minus0, 1), whole(0, 4), 1, 0, 0, left, 1, "8")
	isBest(t, "noughts as 0", vectors(0, minus0, 1), whole(0, 0, 6), 1, 0, 0, left, 2, "24")
	isBest(t, "noughts as 0", vectors(minus0, 0, -1), whole(0, 0, 6), 1, 0, -1, left, 1, "24")
	isBest(t, "a nought, NaN", vectors(minus0, nan), whole(0, 4), 1, 0, 0, right, 1, "8")
	isBest(t, "-inf", vectors(-endless, 0), whole(0, 4), 1, 0, -endless, left, 1, "8")
	isBest(t, "inf", vectors(endless, nan), whole(0, 4), 1, 0, endless, right, 1, "8")
	isBest(t, "-inf and NaN", vectors(-endless, nan), whole(0, 4), 1, 0, -endless, right, 1, "8")
	isBest(t, "-inf and NaN and more", vectors(nan, -endless, endless), whole(0, 0, 6), 1, 0, -endless, left, 2, "24")
	isBest(t, "neighbours", vectors(5e-324, 0), whole(0, 4), 1, 0, 0, left, 1, "8")
	isBest(t, "neighbours", vectors(1, math.Nextafter(1, 2)), whole(0, 4), 1, 0, 1, left, 1, "8")
	isBest(t, "inf behind the greatest", vectors(math.MaxFloat64, endless), whole(0, 4), 1, 0, math.MaxFloat64, left, 1, "8")

	l := vectors(minus0, nan, -endless, endless)
	isGrown(t, "numbers of all kinds", l, whole(1, 2, 3, 4), plan(0, 2), api.Tree{Nodes: []api.Node{
		{Kind: api.NodeNumber, Threshold: 0, Missing: left, Left: 1, Right: 4},
		{Kind: api.NodeNumber, Threshold: -endless, Missing: left, Left: 2, Right: 3}, leafOf(2), leafOf(1), leafOf(4),
	}})
}

func TestGains(t *testing.T) {
	noBest(t, "one row", vectors(1), whole(5), 1, api.OK)
	noBest(t, "rests of nought", vectors(1, 2, 3), whole(0, 0, 0), 1, api.OK)
	noBest(t, "rests that are alike", vectors(1, 2, 3), whole(7, 7, 7), 1, api.OK)
	// Rests that differ, by which no split gains: each side has the same average.
	noBest(t, "gains of nought", vectors(1, 1, 2, 2), whole(3, 5, 5, 3), 1, api.OK)
	noBest(t, "gains of nought", vectors(1, 1, 2, 2, 3, 3, 3), whole(-4, 4, 7, -7, 0, 1, -1), 1, api.OK)
	isGrown(t, "a gain of nought", vectors(1, 1, 2, 2), whole(3, 5, 5, 3), plan(0, 3), leaf(4))
	// One feature has none, the next one has some.
	isBest(t, "one that gains", [][]float64{{1, 1}, {1, 2}, {2, 2}, {2, 1}}, whole(3, 5, 5, 3), 1, 1, 1, left, 2, "4")
	isBest(t, "a small gain", vectors(1, 2, 3), whole(0, 0, 1), 1, 0, 2, left, 2, "2/3")
	isBest(t, "beyond 64 bits", vectors(1, 2, 3), whole(0, 0, api.MaxRest), 1, 0, 2, left, 2, "9903520314283042199192993792/3") // 2^93 / 3
	isBest(t, "of either sign", vectors(1, 2), whole(-api.MaxRest, api.MaxRest), 1, 0, 1, left, 1, "9903520314283042199192993792")

	// Gains that differ in a small part alone: (a + 1)^2 and a^2 differ by 2 a of 2^92, by the feature that comes behind.
	const a = api.MaxRest - 1
	isBest(t, "a small part", [][]float64{{1, 2}, {2, 1}, {3, 3}}, whole(a, a+1, 0), 1, 0, 2, left, 2, gainOf(2, 2*a+1, 1, 0))
	isBest(t, "a small part", [][]float64{{2, 1, 1}, {1, 2, 2}, {2, 2, 2}}, whole(-a-1, a, 0), 1, 1, 1, left, 1, gainOf(1, -a-1, 2, a))
	isBest(t, "a small part", [][]float64{{1, 2, 1}, {2, 1, 2}, {2, 2, 2}}, whole(a, -a-1, 0), 1, 1, 1, left, 1, gainOf(1, -a-1, 2, a))
	isBest(t, "the same amounts", [][]float64{{1, 2, 1}, {2, 1, 2}, {2, 2, 2}}, whole(a, -a, 0), 1, 0, 1, left, 1, gainOf(1, a, 2, -a))
}

// gainOf is a split's gain, of so many rows and such a sum on either side.
func gainOf(many, sum, others, rest int64) string {
	square := func(s, n int64) api.Ratio {
		q, _ := limbs.Times(limbs.Whole(s), limbs.Whole(s))
		q, _ = limbs.By(q, limbs.Whole(n))
		return q
	}
	both, _ := limbs.Plus(square(sum, many), square(rest, others))
	gain, _ := limbs.Minus(both, square(sum+rest, many+others))
	return said(gain)
}

func TestGrow(t *testing.T) {
	isGrown(t, "one row", vectors(1), whole(7), plan(0, 3), leaf(7))
	isGrown(t, "rests of nought", vectors(1, 2), whole(0, 0), plan(0, 3), leaf(0))
	l, y := vectors(1, 2, 3, 4), whole(0, 10, 100, 130)
	isGrown(t, "no deeper than 0", l, y, plan(0, 0), leaf(60))
	isGrown(t, "no deeper than 1", l, y, plan(0, 1), stump(0, 2, left, 5, 115))
	whole4 := api.Tree{Nodes: []api.Node{
		{Kind: api.NodeNumber, Threshold: 2, Missing: left, Left: 1, Right: 4},
		{Kind: api.NodeNumber, Threshold: 1, Missing: left, Left: 2, Right: 3}, leafOf(0), leafOf(10),
		{Kind: api.NodeNumber, Threshold: 3, Missing: left, Left: 5, Right: 6}, leafOf(100), leafOf(130),
	}}
	for _, deep := range []int{2, 3, api.MaxDeep} {
		isGrown(t, "all the way", l, y, plan(0, deep), whole4)
	}
	isGrown(t, "leaves of two rows", l, y, least(plan(0, 5), 2), stump(0, 2, left, 5, 115))
	isGrown(t, "leaves of three rows", l, y, least(plan(0, 5), 3), leaf(60))
	isGrown(t, "a lopsided tree", l, whole(0, 0, 0, 9), plan(0, 5), stump(0, 3, left, 0, 9))
	isGrown(t, "one side goes on", l, whole(-50, 8, 9, 9), plan(0, 5), api.Tree{Nodes: []api.Node{
		{Kind: api.NodeNumber, Threshold: 1, Missing: left, Left: 1, Right: 2}, leafOf(-50),
		{Kind: api.NodeNumber, Threshold: 2, Missing: left, Left: 3, Right: 4}, leafOf(8), leafOf(9),
	}})
	two := [][]float64{{1, 1}, {1, 2}, {2, 1}, {2, 2}}
	isGrown(t, "two features", two, whole(0, 10, 100, 130), plan(0, 2), api.Tree{Nodes: []api.Node{
		{Kind: api.NodeNumber, Threshold: 1, Missing: left, Left: 1, Right: 4},
		{Kind: api.NodeNumber, Feature: 1, Threshold: 1, Missing: left, Left: 2, Right: 3}, leafOf(0), leafOf(10),
		{Kind: api.NodeNumber, Feature: 1, Threshold: 1, Missing: left, Left: 5, Right: 6}, leafOf(100), leafOf(130),
	}})
	isGrown(t, "NaN", vectors(nan, 5, 6), whole(4, 0, 0), plan(0, 3), stump(0, 6, right, 0, 4))
	// A gain of nought at the root ends the tree, though there were gains below.
	isGrown(t, "one or the other", two, whole(0, 6, 6, 0), plan(0, 2), leaf(3))
}

// Leaves are rounded to the nearest, of two as near to the even one.
func TestRounded(t *testing.T) {
	for rest, want := range map[int64]int64{0: 0, 1: 0, 2: 1, 3: 2, 5: 2, 7: 4, -1: 0, -3: -2, -5: -2, -7: -4, -2: -1} {
		isGrown(t, "half of one", vectors(1), whole(rest), rate(plan(0, 0), 1, 2), leaf(want))
		isGrown(t, "two rows", vectors(1, 1), whole(rest, 0), plan(0, 3), leaf(want))
		isGrown(t, "two rows, the whole way", vectors(1, 1), whole(rest, rest), rate(plan(0, 3), 1, 2), leaf(want))
	}
	for rest, want := range map[int64]int64{1: 0, 2: 1, 4: 1, 5: 2, 7: 2, 8: 3, -1: 0, -2: -1, -4: -1, -5: -2} {
		isGrown(t, "three rows", vectors(1, 1, 1), whole(rest, 0, 0), plan(0, 3), leaf(want))
		isGrown(t, "a third", vectors(1), whole(rest), rate(plan(0, 0), 1, 3), leaf(want))
		isGrown(t, "two sixths", vectors(1), whole(rest), rate(plan(0, 0), 2, 6), leaf(want))
	}
	isGrown(t, "two thirds of 5 by 2", vectors(1, 1), whole(5, 0), rate(plan(0, 0), 2, 3), leaf(2)) // 5/3
	isFit(t, "a base that is rounded", vectors(1, 1), whole(1, 2), plan(1, 1), 2, []string{"1", "1"}, leaf(0))
	isFit(t, "a base that is rounded", vectors(1, 1), whole(0, 1), plan(1, 1), 0, []string{"1", "1"}, leaf(0))
	isFit(t, "a base below nought", vectors(1, 1), whole(-3, -4), plan(1, 1), -4, []string{"1", "1"}, leaf(0))
	isFit(t, "thirds", vectors(1, 1, 1), whole(1, 1, 0), plan(0, 1), 1, []string{"1"})
}

func TestFit(t *testing.T) {
	l, y := vectors(1, 2, 3), whole(0, 30, 60)
	isFit(t, "half of the way", l, y, rate(plan(3, 1), 1, 2), 30, []string{"1800", "773", "206", "62"}, stump(0, 1, left, -15, 8), stump(0, 2, left, -6, 11), stump(0, 2, left, -3, 6))
	isFit(t, "the whole way", l, y, plan(3, 1), 30, []string{"1800", "450", "113", "25"}, stump(0, 1, left, -30, 15), stump(0, 2, left, -8, 15), stump(0, 1, left, 8, -4))
	isFit(t, "one row", vectors(nan), whole(-7), plan(2, 3), -7, []string{"0", "0", "0"}, leaf(0), leaf(0))
	isFit(t, "targets that are alike", vectors(1, 2), whole(4, 4), plan(1, 3), 4, []string{"0", "0"}, leaf(0))

	two := [][]float64{{1, nan}, {2, 5}, {3, nan}, {nan, 7}}
	y = whole(0, -30, 60, 1000)
	deeper := func(inner api.Node, a, b, c int64) api.Tree {
		inner.Kind, inner.Left, inner.Right = api.NodeNumber, 2, 3
		return api.Tree{Nodes: []api.Node{{Kind: api.NodeNumber, Threshold: 3, Missing: right, Left: 1, Right: 4}, inner, leafOf(a), leafOf(b), leafOf(c)}}
	}
	isFit(t, "two features", two, y, rate(plan(3, 2), 2, 3), 258, []string{"739276", "82377", "9151", "1025"},
		deeper(api.Node{Threshold: 2, Missing: left}, -182, -132, 495),
		deeper(api.Node{Feature: 1, Threshold: 5, Missing: right}, -71, -47, 165),
		deeper(api.Node{Threshold: 2, Missing: left}, -21, -13, 55))
	isFit(t, "two rows a leaf", two, y, least(rate(plan(2, 2), 2, 3), 2), 258, []string{"739276", "475374", "266070"}, stump(0, 2, right, -182, 181), stump(0, 1, left, 162, -162))
	isFit(t, "no tree", two, y, plan(0, 2), 258, []string{"739276"})
}

func TestLoss(t *testing.T) {
	e := lossless(1)
	l := vectors(1, 2, nan)
	isLoss(t, "nothing said", e, l, whole(3, -4, 0), "25")
	e.Base[0] = 10
	isLoss(t, "a base", e, l, whole(10, 10, 10), "0")
	e.Trees = []api.Tree{stump(0, 1, right, 5, -5), leaf(1), stump(0, 5, left, 100, 200)}
	isLoss(t, "trees", e, l, whole(116, 106, 206), "10000") // 116, 106, 106
	isLoss(t, "one row", e, vectors(7), whole(0), "42436")

	// Of several outputs the first one alone counts.
	several := lossless(1)
	several.Outputs, several.Base = 3, []int64{1, 1000, -1000}
	several.Trees = []api.Tree{{Output: 2, Nodes: []api.Node{leafOf(77)}}, leaf(4), {Output: 1, Nodes: stump(0, 1, left, 8, 9).Nodes}}
	isLoss(t, "several outputs", several, vectors(1, 2), whole(5, 3), "4")
	cats := lossless(2)
	cats.Trees = []api.Tree{{Nodes: []api.Node{{Kind: api.NodeCats, Feature: 1, Cats: []int{0, 3}, Missing: right, Left: 1, Right: 2}, leafOf(2), leafOf(7)}}}
	isLoss(t, "categories", cats, [][]float64{{0, 3}, {3, minus0}, {0, nan}, {0, 1}}, whole(0, 0, 0, 0), "106")

	// Ensembles that break a rule where trees.Score says nothing.
	loose := lossless(1)
	loose.Name, loose.Features = "no name", []string{"no name either"}
	loose.Base[0] = math.MinInt64
	isLoss(t, "a room beyond the limit", loose, vectors(1), whole(0), "85070591730234615865843651857942052864") // 2^126
	isLoss(t, "a difference beyond an int64", loose, vectors(1), whole(api.MaxTarget), "85070612012645428443333690434368045056")
	isLoss(t, "a difference beyond an int64, twice", loose, vectors(1, 1), whole(api.MaxTarget, api.MaxTarget), "170141224025290856886667380868736090112")
	loose.Trees = []api.Tree{leaf(-1)}
	isLoss(t, "a score that wraps", loose, vectors(1), whole(0), "85070591730234615847396907784232501249")
	loose.Outputs, loose.Base = api.MaxOutputs+1, make([]int64, api.MaxOutputs+1)
	isLoss(t, "too many outputs", loose, vectors(1), whole(0), "1")
	bare := api.Ensemble{Outputs: 1, Base: []int64{5}, Features: []string{"", ""}}
	isLoss(t, "features of one name", bare, [][]float64{{1, 2}, {3, 4}}, whole(5, 4), "1")
	// A tree beyond the limit of leaves.
	var deep api.Tree
	for i := range 2 * api.MaxLeaves {
		deep.Nodes = append(deep.Nodes, api.Node{Kind: api.NodeNumber, Threshold: float64(i), Missing: left, Left: 2*i + 1, Right: 2*i + 2}, leafOf(int64(i)))
	}
	deep.Nodes = append(deep.Nodes, leafOf(-3))
	long := lossless(1)
	long.Trees = []api.Tree{deep}
	isLoss(t, "a tree that is too great", long, vectors(endless, 17), whole(0, 0), "298")
}

// The sum of MaxRows squares of the greatest misses.
func TestGreatLoss(t *testing.T) {
	e := lossless(1)
	e.Base[0] = math.MinInt64
	l, y := slices.Repeat(vectors(1), api.MaxRows), slices.Repeat(whole(api.MaxTarget), api.MaxRows)
	n, why := Loss(e, l, y)
	miss := limbs.Add(limbs.From(1<<63), limbs.From(api.MaxTarget))
	if want := limbs.Mul(limbs.Mul(miss, miss), limbs.From(api.MaxRows)); why != api.OK || !slices.Equal(n, want) {
		t.Error("P26.4: Loss:", n, why, want)
	}
}

func TestWrongEnsembles(t *testing.T) {
	l, y := [][]float64{{1, 2}, {3, 4}}, whole(1, 2)
	for what, c := range map[string]struct {
		spoil func(e *api.Ensemble)
		want  api.Errno
	}{
		"nothing":             {func(e *api.Ensemble) { *e = api.Ensemble{} }, api.ErrSize},
		"no outputs":          {func(e *api.Ensemble) { e.Outputs = 0 }, api.ErrSize},
		"outputs below":       {func(e *api.Ensemble) { e.Outputs = -1 }, api.ErrSize},
		"no base":             {func(e *api.Ensemble) { e.Base = nil }, api.ErrSize},
		"more in Base":        {func(e *api.Ensemble) { e.Base = []int64{1, 2} }, api.ErrSize},
		"more features":       {func(e *api.Ensemble) { e.Features = append(e.Features, "f2") }, api.ErrVector},
		"fewer features":      {func(e *api.Ensemble) { e.Features = e.Features[:1] }, api.ErrVector},
		"no features":         {func(e *api.Ensemble) { e.Features = nil }, api.ErrVector},
		"no nodes":            {func(e *api.Ensemble) { e.Trees[0].Nodes = nil }, api.ErrShape},
		"a node":              {func(e *api.Ensemble) { e.Trees[0].Nodes[1].Kind = 9 }, api.ErrSplit},
		"a node below two":    {func(e *api.Ensemble) { e.Trees[0].Nodes[0].Right = 1 }, api.ErrShape},
		"a threshold":         {func(e *api.Ensemble) { e.Trees[0].Nodes[0].Threshold = nan }, api.ErrSplit},
		"an output":           {func(e *api.Ensemble) { e.Trees[0].Output = 1 }, api.ErrSize},
		"an output below":     {func(e *api.Ensemble) { e.Trees[0].Output = -1 }, api.ErrSize},
		"a feature":           {func(e *api.Ensemble) { e.Trees[0].Nodes[0].Feature = 2 }, api.ErrVector},
		"a feature far out":   {func(e *api.Ensemble) { e.Trees[0].Nodes[0].Feature = api.MaxFeatures }, api.ErrSplit},
		"Base comes first":    {func(e *api.Ensemble) { e.Base, e.Features, e.Trees[0].Nodes = nil, nil, nil }, api.ErrSize},
		"features come first": {func(e *api.Ensemble) { e.Features, e.Trees[0].Nodes = nil, nil }, api.ErrVector},
		"the second tree":     {func(e *api.Ensemble) { e.Trees[1].Nodes = nil; e.Trees[2].Output = 7 }, api.ErrShape},
	} {
		e := lossless(2)
		e.Trees = []api.Tree{stump(1, 1, left, 2, 3), leaf(4), leaf(5)}
		c.spoil(&e)
		noLoss(t, what, e, l, y, c.want)
		if _, why := trees.Score(e, l[0]); why != c.want {
			t.Errorf("P26.4: %s: trees.Score says %d", what, why)
		}
		noLoss(t, "rows come first", e, l, y[1:], api.ErrSize)
		noLoss(t, "rows come first", e, [][]float64{{1, 2}, {3}}, y, api.ErrVector)
		noLoss(t, "rows come first", e, l, whole(1, math.MaxInt64), api.ErrRange)
	}
	noLoss(t, "vectors that are too short", lossless(2), vectors(1, 2), whole(0, 0), api.ErrVector)
	noLoss(t, "vectors that are too long", lossless(2), [][]float64{{1, 2, 3}}, whole(0), api.ErrVector)
}

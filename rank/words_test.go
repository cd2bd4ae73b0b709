package rank

import (
	"math/big"
	"math/rand/v2"
	"slices"
	"testing"

	"thicket/api"
	"thicket/limbs"
)

// A second opinion, from the chapter's words, in quotients of the library.

func rat(v int64) *big.Rat { return new(big.Rat).SetInt64(v) }

func quo(a, b *big.Rat) *big.Rat { return new(big.Rat).Quo(a, b) }

func plus(l ...*big.Rat) *big.Rat {
	sum := new(big.Rat)
	for _, q := range l {
		sum.Add(sum, q)
	}
	return sum
}

func minus(a, b *big.Rat) *big.Rat { return new(big.Rat).Sub(a, b) }

func square(a *big.Rat) *big.Rat { return new(big.Rat).Mul(a, a) }

// ratOf is what a right ratio says.
func ratOf(t *testing.T, r api.Ratio) *big.Rat {
	t.Helper()
	s, why := limbs.Write(r)
	q, ok := new(big.Rat).SetString(s)
	if why != api.OK || !ok || !isRightRatio(r) {
		t.Fatalf("not a right ratio: %v", r)
	}
	return q
}

func ratsOf(t *testing.T, l []api.Ratio) []*big.Rat {
	t.Helper()
	var out []*big.Rat
	for _, r := range l {
		out = append(out, ratOf(t, r))
	}
	return out
}

// placeByWords is one more than how many items stand ahead.
func placeByWords(scores []int64, item int) int {
	place := 1
	for i, s := range scores {
		if s > scores[item] || s == scores[item] && i < item {
			place++
		}
	}
	return place
}

func placesByWords(scores []int64) []int {
	var l []int
	for item := range scores {
		l = append(l, placeByWords(scores, item))
	}
	return l
}

func ranksByWords(scores []int64) []*big.Rat {
	places := placesByWords(scores)
	var l []*big.Rat
	for _, s := range scores {
		sum, many := int64(0), int64(0)
		for i, other := range scores {
			if s == other {
				sum, many = sum+int64(places[i]), many+1
			}
		}
		l = append(l, quo(rat(sum), rat(many)))
	}
	return l
}

// aucByWords is nil where there are no pairs.
func aucByWords(scores []int64, hit []bool) *big.Rat {
	sum, many := new(big.Rat), int64(0)
	for i := range scores {
		for j := range scores {
			if !hit[i] || hit[j] {
				continue
			}
			many++
			switch {
			case scores[i] > scores[j]:
				sum = plus(sum, rat(1))
			case scores[i] == scores[j]:
				sum = plus(sum, big.NewRat(1, 2))
			}
		}
	}
	if many == 0 {
		return nil
	}
	return quo(sum, rat(many))
}

func precisionByWords(places []int, hit []bool, k int) *big.Rat {
	many := int64(0)
	for item, place := range places {
		if place <= k && hit[item] {
			many++
		}
	}
	return quo(rat(many), rat(int64(k)))
}

// averageByWords is nil where no item is hit.
func averageByWords(places []int, hit []bool) *big.Rat {
	sum, many := new(big.Rat), int64(0)
	for item, place := range places {
		if hit[item] {
			sum, many = plus(sum, precisionByWords(places, hit, place)), many+1
		}
	}
	if many == 0 {
		return nil
	}
	return quo(sum, rat(many))
}

func gainByWords(places []int, worth []int64, k int) *big.Rat {
	sum := new(big.Rat)
	for item, place := range places {
		if place <= k {
			sum = plus(sum, quo(rat(worth[item]), rat(int64(place))))
		}
	}
	return sum
}

// shareByWords is nil where there is none.
func shareByWords(scores, worth []int64, k int) *big.Rat {
	best := gainByWords(placesByWords(worth), worth, k)
	if slices.ContainsFunc(worth, func(v int64) bool { return v < 0 }) || best.Sign() == 0 {
		return nil
	}
	return quo(gainByWords(placesByWords(scores), worth, k), best)
}

func tauByWords(a, b []int64) *big.Rat {
	sum, many := int64(0), int64(0)
	for i := range a {
		for j := range i {
			many++
			switch {
			case a[i] > a[j] && b[i] > b[j] || a[i] < a[j] && b[i] < b[j]:
				sum++
			case a[i] > a[j] && b[i] < b[j] || a[i] < a[j] && b[i] > b[j]:
				sum--
			}
		}
	}
	if many == 0 {
		return nil
	}
	return quo(rat(sum), rat(many))
}

func errorByWords(a, b []int64) *big.Rat {
	if len(a) == 0 {
		return nil
	}
	sum := new(big.Rat)
	for i := range a {
		sum = plus(sum, square(minus(rat(a[i]), rat(b[i]))))
	}
	return quo(sum, rat(int64(len(a))))
}

func meanOf(items []int, seen []int64) *big.Rat {
	sum := new(big.Rat)
	for _, item := range items {
		sum = plus(sum, rat(seen[item]))
	}
	return quo(sum, rat(int64(len(items))))
}

// risingByWords are the items of each score, by rising scores.
func risingByWords(scores []int64) [][]int {
	different := slices.Clone(scores)
	slices.Sort(different)
	var l [][]int
	for _, s := range slices.Compact(different) {
		var items []int
		for item, other := range scores {
			if s == other {
				items = append(items, item)
			}
		}
		l = append(l, items)
	}
	return l
}

// poolsByWords makes any two pools one that fall, in whatever order, till there are none.
func poolsByWords(r *rand.Rand, scores, seen []int64) []*big.Rat {
	pools := risingByWords(scores)
	for {
		var falls []int
		for i := range len(pools) - 1 {
			if meanOf(pools[i], seen).Cmp(meanOf(pools[i+1], seen)) > 0 {
				falls = append(falls, i)
			}
		}
		if len(falls) == 0 {
			break
		}
		i := falls[r.IntN(len(falls))]
		pools = slices.Replace(pools, i, i+2, slices.Concat(pools[i], pools[i+1]))
	}
	values := make([]*big.Rat, len(scores))
	for _, items := range pools {
		for _, item := range items {
			values[item] = meanOf(items, seen)
		}
	}
	return values
}

// nearestByWords is what is known of rising values that lie nearest: each is the greatest, over all beginnings up to its score, of the least, over all ends from its score on, of the means from there to there.
func nearestByWords(scores, seen []int64) []*big.Rat {
	pools := risingByWords(scores)
	values := make([]*big.Rat, len(scores))
	for at, items := range pools {
		var greatest *big.Rat
		for from := range at + 1 {
			var lowest *big.Rat
			for to := at; to < len(pools); to++ {
				if m := meanOf(slices.Concat(pools[from:to+1]...), seen); lowest == nil || m.Cmp(lowest) < 0 {
					lowest = m
				}
			}
			if greatest == nil || lowest.Cmp(greatest) > 0 {
				greatest = lowest
			}
		}
		for _, item := range items {
			values[item] = greatest
		}
	}
	return values
}

// someNumbers are any ones: few different ones, many, or such as are at the ends.
func someNumbers(r *rand.Rand, many int) []int64 {
	l := make([]int64, many)
	kind := r.IntN(4)
	for i := range l {
		switch {
		case kind == 0:
			l[i] = r.Int64N(3)
		case kind == 1:
			l[i] = r.Int64N(20) - 10
		case kind == 2 && r.IntN(2) == 0:
			l[i] = []int64{least, least + 1, -1, 0, 1, most - 1, most}[r.IntN(7)]
		default:
			l[i] = int64(r.Uint64())
		}
	}
	return l
}

func someHits(r *rand.Rand, many int) []bool {
	l, part := make([]bool, many), r.IntN(5)
	for i := range l {
		l[i] = r.IntN(4) < part
	}
	return l
}

// amounts are numbers that are not below 0.
func amounts(l []int64) []int64 {
	l = slices.Clone(l)
	for i, v := range l {
		l[i] = max(v, -(v + 1))
	}
	return l
}

// agrees holds an answer to the words: nil is ErrClass.
func agrees(t *testing.T, what string, want *big.Rat, r api.Ratio, why api.Errno) {
	t.Helper()
	switch {
	case want == nil:
		if why != api.ErrClass {
			t.Fatalf("%s: %d, not ErrClass", what, why)
		}
	case why != api.OK || ratOf(t, r).Cmp(want) != 0:
		t.Fatalf("%s: %s, not %v", what, said(r, why), want)
	}
}

func areSame(a, b []*big.Rat) bool {
	return slices.EqualFunc(a, b, func(x, y *big.Rat) bool { return x.Cmp(y) == 0 })
}

func TestByWords(t *testing.T) {
	r := source()
	for i := range 3000 {
		many := r.IntN(9)
		if i%50 == 0 {
			many = 30 + r.IntN(30)
		}
		scores, other, hit := someNumbers(r, many), someNumbers(r, many), someHits(r, many)
		places := placesByWords(scores)
		order := Order(scores)
		for item, place := range places {
			if len(order) != many || order[place-1] != item {
				t.Fatalf("27.1: Order(%v) = %v", scores, order)
			}
		}
		if got := ratsOf(t, Ranks(scores)); !areSame(got, ranksByWords(scores)) {
			t.Fatalf("27.1: Ranks(%v) = %v", scores, got)
		}
		q, why := Auc(scores, hit)
		agrees(t, "27.2: Auc", aucByWords(scores, hit), q, why)
		q, why = Average(scores, hit)
		agrees(t, "27.2: Average", averageByWords(places, hit), q, why)
		for k := 1; k <= many; k++ {
			q, why = Precision(scores, hit, k)
			agrees(t, "27.2: Precision", precisionByWords(places, hit, k), q, why)
		}
		for k := range many + 1 {
			q, why = Gain(scores, other, k)
			agrees(t, "27.3: Gain", gainByWords(places, other, k), q, why)
			for _, worth := range [][]int64{other, amounts(other)} {
				q, why = Share(scores, worth, k)
				agrees(t, "27.3: Share", shareByWords(scores, worth, k), q, why)
			}
		}
		q, why = Tau(scores, other)
		agrees(t, "27.4: Tau", tauByWords(scores, other), q, why)
		q, why = Error(scores, other)
		agrees(t, "27.4: Error", errorByWords(scores, other), q, why)
		l, why := Pools(scores, other)
		if got := ratsOf(t, l); why != api.OK || !areSame(got, poolsByWords(r, scores, other)) {
			t.Fatalf("27.5: Pools(%v, %v) = %v, %d", scores, other, got, why)
		}
	}
}

// All lists of few items with few different scores.
func TestAllSmallLists(t *testing.T) {
	for many := range 5 {
		var all [][]int64
		for code := range 1 << (2 * many) {
			var l []int64
			for i := range many {
				l = append(l, int64(code>>(2*i)&3))
			}
			all = append(all, l)
		}
		r := source()
		for _, a := range all {
			for _, b := range all {
				q, why := Tau(a, b)
				agrees(t, "27.4: Tau", tauByWords(a, b), q, why)
				if l, why := Pools(a, b); why != api.OK || !areSame(ratsOf(t, l), poolsByWords(r, a, b)) {
					t.Fatalf("27.5: Pools(%v, %v) = %s", a, b, allSaid(l, why))
				}
			}
			for code := range 1 << many {
				hit := make([]bool, many)
				for i := range hit {
					hit[i] = code>>i&1 == 1
				}
				q, why := Auc(a, hit)
				agrees(t, "27.2: Auc", aucByWords(a, hit), q, why)
				q, why = Average(a, hit)
				agrees(t, "27.2: Average", averageByWords(placesByWords(a), hit), q, why)
			}
		}
	}
}

func TestOrderAndRanksAddUp(t *testing.T) {
	r := source()
	for range 500 {
		scores := someNumbers(r, r.IntN(40))
		n := int64(len(scores))
		order := slices.Sorted(slices.Values(Order(scores)))
		for i, item := range order {
			if len(order) != len(scores) || item != i {
				t.Fatalf("27.7: Order(%v) = %v", scores, Order(scores))
			}
		}
		if sum := plus(ratsOf(t, Ranks(scores))...); sum.Cmp(rat(n*(n+1)/2)) != 0 {
			t.Fatalf("27.7: Ranks of %v add up to %v", scores, sum)
		}
	}
}

func isWithin(t *testing.T, what string, low int64, r api.Ratio, why api.Errno) {
	t.Helper()
	if why == api.OK && (ratOf(t, r).Cmp(rat(low)) < 0 || ratOf(t, r).Cmp(rat(1)) > 0) {
		t.Fatalf("27.8: %s: %s", what, said(r, why))
	}
}

// stretched are other scores that are put alike.
func stretched(scores []int64) []int64 {
	different := slices.Clone(scores)
	slices.Sort(different)
	different = slices.Compact(different)
	var l []int64
	for _, s := range scores {
		at, _ := slices.BinarySearch(different, s)
		l = append(l, int64(at)*int64(at)*7-1000)
	}
	return l
}

func TestTurnedAndStretched(t *testing.T) {
	r := source()
	for range 1000 {
		many := r.IntN(20)
		scores, other, hit := someNumbers(r, many), someNumbers(r, many), someHits(r, many)
		alike := stretched(scores)
		auc, why := Auc(scores, hit)
		isWithin(t, "Auc", 0, auc, why)
		is(t, "27.8: Auc of scores that are put alike", said(Auc(alike, hit)), said(auc, why))
		is(t, "27.8: Average of scores that are put alike", said(Average(alike, hit)), said(Average(scores, hit)))
		is(t, "27.8: Tau of scores that are put alike", said(Tau(alike, other)), said(Tau(scores, other)))
		is(t, "27.8: Tau of scores that are put alike", said(Tau(other, alike)), said(Tau(other, scores)))
		average, no := Average(scores, hit)
		isWithin(t, "Average", 0, average, no)
		tau, nor := Tau(scores, other)
		isWithin(t, "Tau", -1, tau, nor)
		for k := range many + 2 {
			is(t, "27.8: Precision of scores that are put alike", said(Precision(alike, hit, k)), said(Precision(scores, hit, k)))
			precision, why := Precision(scores, hit, k)
			isWithin(t, "Precision", 0, precision, why)
			share, no := Share(scores, amounts(other), k)
			isWithin(t, "Share", 0, share, no)
		}
		if slices.Contains(scores, least) || why != api.OK {
			continue
		}
		turned := slices.Clone(scores)
		for i := range turned {
			turned[i] = -turned[i]
		}
		back, why := Auc(turned, hit)
		if why != api.OK || plus(ratOf(t, auc), ratOf(t, back)).Cmp(rat(1)) != 0 {
			t.Fatalf("27.8: Auc of %v: %s, turned around %s", scores, said(auc, api.OK), said(back, why))
		}
	}
}

func TestBestOrder(t *testing.T) {
	r := source()
	for range 500 {
		many := r.IntN(12)
		scores, worth := someNumbers(r, many), amounts(someNumbers(r, many))
		for k := range many + 1 {
			best, why := Gain(worth, worth, k)
			other, no := Gain(scores, worth, k)
			if why != api.OK || no != api.OK || ratOf(t, best).Cmp(ratOf(t, other)) < 0 {
				t.Fatalf("27.9: Gain of %v by %v at %d: %s, the best %s", worth, scores, k, said(other, no), said(best, why))
			}
		}
	}
}

// missed is the sum of squared differences from what was seen.
func missed(values []*big.Rat, seen []int64) *big.Rat {
	sum := new(big.Rat)
	for i, v := range values {
		sum = plus(sum, square(minus(v, rat(seen[i]))))
	}
	return sum
}

func TestIsotonic(t *testing.T) {
	r := source()
	for range 1000 {
		many := r.IntN(10)
		scores, seen := someNumbers(r, many), someNumbers(r, many)
		l, why := Pools(scores, seen)
		values := ratsOf(t, l)
		if why != api.OK || len(l) != many {
			t.Fatal("27.5:", l, why)
		}
		sum := new(big.Rat)
		for i := range scores {
			sum = plus(sum, rat(seen[i]))
			for j := range scores {
				if c := values[i].Cmp(values[j]); scores[i] < scores[j] && c > 0 || scores[i] == scores[j] && c != 0 {
					t.Fatalf("27.10: Pools(%v, %v) = %s: they don't rise", scores, seen, allSaid(l, why))
				}
			}
		}
		if plus(values...).Cmp(sum) != 0 {
			t.Fatalf("27.10: Pools(%v, %v) = %s: they add up to something else", scores, seen, allSaid(l, why))
		}
		if !areSame(values, nearestByWords(scores, seen)) {
			t.Fatalf("27.10: Pools(%v, %v) = %s: others lie nearer", scores, seen, allSaid(l, why))
		}
		for range 20 { // other values that rise: any, and such as lie about those of Pools
			others, above := make([]*big.Rat, many), new(big.Rat)
			isAny := r.IntN(2) == 0
			base := quo(rat(r.Int64N(9)-8), rat(4))
			for _, items := range risingByWords(scores) {
				above = plus(above, quo(rat(r.Int64N(3)), rat(1+r.Int64N(5))))
				for _, item := range items {
					others[item] = plus(base, above)
					if !isAny {
						others[item] = plus(others[item], values[item])
					}
				}
			}
			if missed(others, seen).Cmp(missed(values, seen)) < 0 {
				t.Fatalf("27.10: Pools(%v, %v) = %s: %v lie nearer", scores, seen, allSaid(l, why), others)
			}
		}
	}
}

package bins

import (
	"cmp"
	"math"

	"thicket/api"
	"thicket/order"
)

// place is how many items of a rising list lie below what is sought, found by halving, and whether the one behind them is it.
func place[T, K any](l []T, sought K, compare func(T, K) int) (int, bool) {
	low, high := 0, len(l)
	for low < high {
		middle := low + (high-low)/2
		if compare(l[middle], sought) < 0 {
			low = middle + 1
		} else {
			high = middle
		}
	}
	return low, low < len(l) && compare(l[low], sought) == 0
}

// isPlace tells whether a list has an item of that number.
func isPlace[T any](l []T, i int) bool { return i >= 0 && i < len(l) }

// scale is what numbers of a feature are held against.
type scale struct {
	cuts []float64
	cats []int
}

func scaleOf(b api.Bins, feature int) scale { return scale{b.Cuts[feature], b.Cats[feature]} }

func (s scale) isRight() bool {
	for i, v := range s.cuts {
		if math.IsNaN(v) || v == 0 && math.Signbit(v) || i > 0 && order.Compare(s.cuts[i-1], v) >= 0 {
			return false
		}
	}
	for i, c := range s.cats {
		if c < 0 || c >= api.MaxCats || i > 0 && s.cats[i-1] >= c {
			return false
		}
	}
	return true
}

// none is the Cat of what is no category.
const none = -1

// lost is the code of every NaN.
func lost() api.Code { return api.Code{Cat: none, Lost: true} }

// has tells whether a code is right here; a number need not have it.
func (s scale) has(c api.Code) bool {
	return c == lost() || !c.Lost && c.Bin >= 0 && c.Bin <= len(s.cuts) && c.Cat >= none && c.Cat < len(s.cats)
}

// rank is how many thresholds lie below a number.
func (s scale) rank(v float64) int {
	n, _ := place(s.cuts, v, order.Compare)
	return n
}

func (s scale) code(v float64) api.Code {
	if math.IsNaN(v) {
		return lost()
	}
	cat, ok := place(s.cats, v, func(c int, v float64) int { return order.Compare(float64(c), v) })
	if !ok {
		cat = none
	}
	return api.Code{Bin: s.rank(v), Cat: cat}
}

// points are the numbers that are tried for a right code, in this order. Of those that are no category these lie at the ends of what is between two thresholds, as a category may be in the way.
func (s scale) points(c api.Code) []float64 {
	switch {
	case c.Lost:
		return []float64{math.NaN()}
	case c.Cat != none:
		return []float64{float64(s.cats[c.Cat])}
	case len(s.cuts) == 0:
		return []float64{0}
	}
	var l []float64
	if isPlace(s.cuts, c.Bin) {
		l = append(l, s.cuts[c.Bin])
		if v, why := order.Prev(s.cuts[c.Bin]); why == api.OK {
			l = append(l, v)
		}
	}
	if isPlace(s.cuts, c.Bin-1) {
		if v, why := order.Next(s.cuts[c.Bin-1]); why == api.OK {
			l = append(l, v)
		}
	}
	return l
}

// ranksOf are the places of categories that are all here.
func (s scale) ranksOf(cats []int) []int {
	var l []int
	for _, c := range cats {
		i, _ := place(s.cats, c, cmp.Compare[int])
		l = append(l, i)
	}
	return l
}

package learn

import (
	"math/bits"
	"slices"

	"thicket/api"
	"thicket/limbs"
)

// heap is some rows: how many, and the sum of their rests. No such sum wraps: that of rests that are handed in is at most MaxRows times MaxRest; and boosting never lets the sum of the rests' squares rise, which keeps their own sum lower still.
type heap struct {
	many int
	sum  int64
}

func (h heap) plus(other heap) heap { return heap{h.many + other.many, h.sum + other.sum} }

func (h heap) less(other heap) heap { return heap{h.many - other.many, h.sum - other.sum} }

// worth is the square of the sum by the number of rows; 0 of no rows.
func (h heap) worth() api.Ratio {
	if h.many == 0 {
		return limbs.Whole(0)
	}
	amount := limbs.From(apart(h.sum, 0))
	r, _ := limbs.Over(false, limbs.Mul(amount, amount), limbs.From(uint64(h.many)))
	return r
}

// floor is worth, rounded down; there must be rows.
func (h heap) floor() bound {
	var b bound
	high, low := bits.Mul64(apart(h.sum, 0), apart(h.sum, 0))
	rest := uint64(0)
	for i, word := range [3]uint64{high, low, 0} {
		b[i], rest = bits.Div64(rest, word, uint64(h.many))
	}
	return b
}

// bound is a number in words, the highest first: two ahead of the point, one behind it.
type bound [3]uint64

func (b bound) plus(other bound) bound {
	carry := uint64(0)
	for i := range b {
		at := len(b) - 1 - i
		b[at], carry = bits.Add64(b[at], other[at], carry)
	}
	return b
}

// split is a split of some rows, its threshold by order's key.
type split struct {
	feature   int
	threshold uint64
	missing   api.Side
	left      heap
	whole     heap
	floor     bound // less than two of its last places below worth
}

// noFeature comes ahead of all features: so a split that gains nothing is not better than none.
const noFeature = -1

// noSplit leaves rows together: it gains nothing.
func noSplit(whole heap) split {
	return split{feature: noFeature, whole: whole, floor: whole.floor()}
}

func (s split) isNone() bool { return s.feature == noFeature }

func (s split) right() heap { return s.whole.less(s.left) }

// worth is what a split gains and what its rows are worth together: of two splits of the same rows the one that is worth more gains more.
func (s split) worth() api.Ratio {
	sum, _ := limbs.Plus(s.left.worth(), s.right().worth())
	return sum
}

func (s split) gain() api.Ratio {
	d, _ := limbs.Minus(s.worth(), s.whole.worth())
	return d
}

// ahead tells whether a split is better than another one of the same rows: it gains more, or as much by a lesser feature.
func (s split) ahead(other split) bool {
	c := s.compare(other)
	return c > 0 || c == 0 && s.feature < other.feature
}

// compare is 1, 0 or -1: a split gains more than another one of the same rows, as much, less. Quotients decide it, but as making them takes far longer, they are made only where bounds don't tell.
func (s split) compare(other split) int {
	switch {
	case s.left == other.left || s.left == other.right(): // the same two heaps
		return 0
	case s.above(other):
		return 1
	case other.above(s):
		return -1
	}
	c, _ := limbs.Order(s.worth(), other.worth())
	return c
}

// above tells whether the bounds alone say that a split is worth more.
func (s split) above(other split) bool {
	ceiling := other.floor.plus(bound{0, 0, 2})
	return slices.Compare(s.floor[:], ceiling[:]) >= 0
}

package cells

import (
	"cmp"
	"math"
	"math/bits"
	"slices"

	"thicket/api"
	"thicket/order"
)

// rest is what is left of a span: the numbers with keys from low to high, of these all but the named categories, or, if only is true, the named ones alone; and NaN, if it is lost.
type rest struct {
	low, high uint64
	named     *set // nil: none; never changed, so that rests may share it
	only      bool
	lost      bool
}

func restOf(s api.Span) rest {
	r := rest{low: 1, lost: s.Lost} // no number lies from 1 to 0
	if hasNumbers(s) {
		r.low, r.high = order.Key(s.Low), order.Key(s.High)
	}
	return r
}

func restsOf(box []api.Span) []rest {
	l := make([]rest, len(box))
	for feature, s := range box {
		l[feature] = restOf(s)
	}
	return l
}

// past is what of a rest goes to a side of a node.
func (r rest) past(n *api.Node, side api.Side) rest {
	r.lost = r.lost && n.Missing == side
	switch {
	case n.Kind == api.NodeCats:
		r.sift(setOf(n.Cats), side == api.SideLeft)
	case side == api.SideLeft:
		r.high = min(r.high, order.Key(n.Threshold))
	default:
		r.low = max(r.low, order.Key(n.Threshold)+1)
	}
	return r
}

// sift takes out all numbers but some categories, or these.
func (r *rest) sift(cats set, keep bool) {
	var s set
	if r.named != nil {
		s = *r.named
	}
	switch {
	case r.only && keep:
		s = s.both(cats)
	case r.only:
		s = s.without(cats)
	case keep:
		s = cats.without(s)
	default:
		s = s.either(cats)
	}
	r.named, r.only = &s, r.only || keep
}

// least is the least number that is left, NaN only if none else is; false, if nothing is.
func (r rest) least() (float64, bool) {
	if r.only {
		if c, ok := r.leastNamed(); ok {
			return c, true
		}
	} else if k, ok := r.leastKey(); ok {
		v, _ := order.At(k)
		return v, true
	}
	return math.NaN(), r.lost
}

// leastKey is that of the least number, where categories are out. No two of these are neighbours, so one of two keys is no category's.
func (r rest) leastKey() (uint64, bool) {
	k := r.low
	if r.named != nil {
		if v, _ := order.At(k); r.named.hasNumber(v) {
			k++
		}
	}
	return k, k <= r.high
}

// leastNamed is the least number, where only categories are left.
func (r rest) leastNamed() (float64, bool) {
	v, _ := order.At(r.low)
	if r.low > r.high || v > api.MaxCats-1 {
		return 0, false
	}
	c, ok := r.named.from(int(math.Ceil(max(v, 0))))
	return float64(c), ok && order.Key(float64(c)) <= r.high
}

// places are those of the rising points, NaN behind them, that are left.
func (r rest) places(points []float64) []int {
	from, _ := slices.BinarySearchFunc(points, r.low, func(v float64, k uint64) int { return cmp.Compare(order.Key(v), k) })
	var l []int
	for i := from; i < len(points) && order.Key(points[i]) <= r.high; i++ {
		if r.named == nil || r.named.hasNumber(points[i]) == r.only {
			l = append(l, i)
		}
	}
	if r.lost {
		l = append(l, len(points)-1)
	}
	return l
}

// set is a set of categories, as bits.
type set [api.MaxCats / 64]uint64

func setOf(cats []int) set {
	var s set
	for _, c := range cats {
		s[c/64] |= 1 << (c % 64)
	}
	return s
}

// from is the least category of a set that is at least c.
func (s *set) from(c int) (int, bool) {
	for ; c < api.MaxCats; c = (c/64 + 1) * 64 {
		if w := s[c/64] >> (c % 64); w != 0 {
			return c + bits.TrailingZeros64(w), true
		}
	}
	return 0, false
}

// hasNumber tells whether a number is a category of a set.
func (s *set) hasNumber(v float64) bool {
	if !(v >= 0 && v < api.MaxCats) || v != math.Trunc(v) {
		return false
	}
	c := int(v)
	return s[c/64]>>(c%64)&1 == 1
}

func (s set) both(other set) set {
	for i, w := range other {
		s[i] &= w
	}
	return s
}

func (s set) either(other set) set {
	for i, w := range other {
		s[i] |= w
	}
	return s
}

func (s set) without(other set) set {
	for i, w := range other {
		s[i] &^= w
	}
	return s
}

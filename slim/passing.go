package slim

import (
	"math"

	"thicket/api"
	"thicket/order"
)

// passing is what is let through of a feature: the numbers with keys from low to high, of these all but cats, or cats alone; and NaN, if it is lost.
type passing struct {
	low, high uint64
	cats      set
	only      bool
	lost      bool
}

func everything() passing { return passing{high: order.Key(math.Inf(1)), lost: true} }

// past is what of p goes to a side of a node.
func (p passing) past(n api.Node, side api.Side) passing {
	p.lost = p.lost && n.Missing == side
	switch {
	case n.Kind == api.NodeNumber && side == api.SideLeft:
		p.high = min(p.high, order.Key(n.Threshold))
	case n.Kind == api.NodeNumber:
		p.low = max(p.low, order.Key(n.Threshold)+1)
	case side == api.SideLeft:
		p.keep(setOf(n.Cats))
	default:
		p.drop(setOf(n.Cats))
	}
	return p
}

// keep lets none through but such as are in s.
func (p *passing) keep(s set) {
	if p.only {
		p.cats = p.cats.both(s)
	} else {
		p.cats, p.only = s.without(p.cats), true
	}
}

// drop lets none through that is in s.
func (p *passing) drop(s set) {
	if p.only {
		p.cats = p.cats.without(s)
	} else {
		p.cats = p.cats.either(s)
	}
}

// least is the number with the least key that is let through, a NaN only if none else is; false, if nothing is.
func (p passing) least() (float64, bool) {
	v, ok := p.leastNumber()
	if !ok && p.lost {
		return math.NaN(), true
	}
	return v, ok
}

func (p passing) leastNumber() (float64, bool) {
	if p.only {
		return p.leastCategory()
	}
	// No two categories are neighbours, so this soon finds a number that is none.
	for k := p.low; k <= p.high; k++ {
		if v, _ := order.At(k); !p.cats.hasNumber(v) {
			return v, true
		}
	}
	return 0, false
}

func (p passing) leastCategory() (float64, bool) {
	for c := range api.MaxCats {
		if !p.cats.has(c) {
			continue
		}
		if k := order.Key(float64(c)); k >= p.low && k <= p.high {
			return float64(c), true
		}
	}
	return 0, false
}

// set is a set of categories, as bits.
type set [api.MaxCats / 64]uint64

func setOf(cats []int) set {
	var s set
	for _, c := range cats {
		s[c/64] |= 1 << (c % 64)
	}
	return s
}

func (s set) has(c int) bool { return s[c/64]>>(c%64)&1 == 1 }

// hasNumber tells whether a number is one of the categories.
func (s set) hasNumber(v float64) bool {
	return v >= 0 && v < api.MaxCats && v == math.Trunc(v) && s.has(int(v))
}

func (s set) both(other set) set {
	for i, w := range other {
		s[i] &= w
	}
	return s
}

func (s set) either(other set) set {
	for i, w := range other {
		s[i] |= w
	}
	return s
}

func (s set) without(other set) set {
	for i, w := range other {
		s[i] &^= w
	}
	return s
}

package rank

import (
	"thicket/api"
	"thicket/limbs"
)

// pool is items that have one value: the mean of what was seen of them.
type pool struct {
	items []int     // a piece of the order of rising scores
	sum   api.Ratio // of what was seen, a whole number
}

func newPool(items []int, seen []int64) pool {
	p := pool{items: items, sum: limbs.Whole(0)}
	for _, item := range items {
		p.sum, _ = limbs.Plus(p.sum, limbs.Whole(seen[item]))
	}
	return p
}

// value is the mean, not in lowest terms: to hold it against another one that is not needed, as limbs.Order does it by cross products.
func (p pool) value() api.Ratio {
	return api.Ratio{Neg: p.sum.Neg, Num: p.sum.Num, Den: limbs.From(uint64(len(p.items)))}
}

// mean is the value in lowest terms, in memory of its own each time.
func (p pool) mean() api.Ratio {
	v := p.value()
	r, _ := limbs.Over(v.Neg, v.Num, v.Den)
	return r
}

func (p pool) isAbove(next pool) bool {
	c, _ := limbs.Order(p.value(), next.value())
	return c > 0
}

// with is a pool and the one behind it, made one: their items are neighbours in the order.
func (p pool) with(next pool) pool {
	sum, _ := limbs.Plus(p.sum, next.sum)
	return pool{items: p.items[:len(p.items)+len(next.items)], sum: sum}
}

// pooled are the pools that are left when no further two are to be made one. Those of the stack rise, so only the last one and a new one behind it can fall.
func pooled(rising []int, scores, seen []int64) []pool {
	var stack []pool
	for items := range alike(rising, scores) {
		last := newPool(items, seen)
		for len(stack) > 0 && stack[len(stack)-1].isAbove(last) {
			last = stack[len(stack)-1].with(last)
			stack = stack[:len(stack)-1]
		}
		stack = append(stack, last)
	}
	return stack
}

package explain

import (
	"math/bits"

	"thicket/api"
	"thicket/limbs"
)

// wide is a whole number in two words, the higher one with its sign. Leaves of a right ensemble may add up to more than one word says, but MaxBack scores, a tree's leaves, or shares of a game over all orders, never to more than two.
type wide struct{ high, low uint64 }

// times is a number so many times.
func times(v int64, many uint64) wide {
	high, low := bits.Mul64(uint64(v), many)
	if v < 0 { // as a word it is 2^64 too great
		high -= many
	}
	return wide{high, low}
}

func (a wide) plus(b wide) wide {
	low, carry := bits.Add64(a.low, b.low, 0)
	high, _ := bits.Add64(a.high, b.high, carry)
	return wide{high, low}
}

// over is a right ratio; den must not be nought.
func (a wide) over(den uint64) api.Ratio {
	isBelow := int64(a.high) < 0
	if isBelow {
		a = wide{^a.high, ^a.low}.plus(wide{low: 1})
	}
	num := []uint32{uint32(a.low), uint32(a.low >> 32), uint32(a.high), uint32(a.high >> 32)}
	r, _ := limbs.Over(isBelow, num, limbs.From(den))
	return r
}

// heap is some leaves: the sum of their Values, and how many there are.
type heap struct {
	sum  wide
	many uint64
}

func (h heap) expected() api.Ratio { return h.sum.over(h.many) }

// sumsBelow are, by node, the leaves below it; of a leaf itself.
func sumsBelow(nodes []api.Node) []heap {
	all := make([]heap, len(nodes))
	var below func(i int) heap
	below = func(i int) heap {
		n := &nodes[i]
		if n.Kind == api.NodeLeaf {
			all[i] = heap{times(n.Value, 1), 1}
		} else {
			left, right := below(n.Left), below(n.Right)
			all[i] = heap{left.sum.plus(right.sum), left.many + right.many}
		}
		return all[i]
	}
	below(0)
	return all
}

// total is a sum, made by halves: so few of its parts have great denominators.
func total(l []api.Ratio) api.Ratio {
	switch len(l) {
	case 0:
		return limbs.Whole(0)
	case 1:
		return l[0]
	}
	sum, _ := limbs.Plus(total(l[:len(l)/2]), total(l[len(l)/2:]))
	return sum
}

func difference(a, b api.Ratio) api.Ratio {
	d, _ := limbs.Minus(a, b)
	return d
}

package learn

import (
	"thicket/api"
	"thicket/fixed"
	"thicket/order"
	"thicket/trees"
)

// growth is a tree on its way, its nodes depth by depth: what becomes of a node hangs on its rows alone, so all that lie at one depth are split at one time.
type growth struct {
	rests []int64
	at    []int      // by row: the leaf that it has come to
	nodes []api.Node // leaves have no Value, till all is grown
	heaps []heap     // by node: its rows
	mixed []bool     // by node: whether their rests differ
	last  int        // the first node of the last depth
}

// newGrowth is a leaf that all rows have come to.
func newGrowth(rests []int64) *growth {
	g := &growth{rests: rests, at: make([]int, len(rests)), nodes: []api.Node{{Kind: api.NodeLeaf}}}
	g.count()
	return g
}

// count looks which rows have come to the nodes of the last depth.
func (g *growth) count() {
	more := len(g.nodes) - g.last
	g.heaps, g.mixed = append(g.heaps, make([]heap, more)...), append(g.mixed, make([]bool, more)...)
	firsts := make([]int64, more)
	for row, i := range g.at {
		if i < g.last {
			continue
		}
		h, first, rest := &g.heaps[i], &firsts[i-g.last], g.rests[row]
		if h.many == 0 {
			*first = rest
		}
		*h = h.plus(heap{1, rest})
		g.mixed[i] = g.mixed[i] || rest != *first
	}
}

// open are the places of the last depth at which a split could gain: rests that are all alike it can not part, nor fewer rows than two leasts.
func (g *growth) open(least int) places {
	p := places{rests: g.rests, of: make([]int32, len(g.at)), least: least}
	number := make([]int32, len(g.nodes))
	for i := range number {
		number[i] = nowhere
		if i >= g.last && g.mixed[i] && g.heaps[i].many/2 >= least {
			number[i] = int32(len(p.whole))
			p.whole, p.nodes = append(p.whole, g.heaps[i]), append(p.nodes, i)
		}
	}
	for row, i := range g.at {
		p.of[row] = number[i]
	}
	return p
}

// fork puts splits in the place of leaves and leaves below them, and tells whether there was one.
func (g *growth) fork(p places, l []split) bool {
	g.last = len(g.nodes)
	for place, s := range l {
		if s.isNone() {
			continue
		}
		threshold, _ := order.At(s.threshold)
		next := len(g.nodes)
		g.nodes[p.nodes[place]] = api.Node{Kind: api.NodeNumber, Feature: s.feature, Threshold: threshold, Missing: s.missing, Left: next, Right: next + 1}
		g.nodes = append(g.nodes, api.Node{Kind: api.NodeLeaf}, api.Node{Kind: api.NodeLeaf})
	}
	return len(g.nodes) > g.last
}

// send sends the rows on that have come to a node which is a leaf no more.
func (g *growth) send(l [][]float64) {
	for row, i := range g.at {
		if n := &g.nodes[i]; n.Kind != api.NodeLeaf {
			g.at[row] = behind(n, l[row])
		}
	}
}

// settle says what the leaves say.
func (g *growth) settle(num, den int64) {
	for i := range g.nodes {
		if n, h := &g.nodes[i], g.heaps[i]; n.Kind == api.NodeLeaf {
			n.Value, _ = fixed.Scale(h.sum, num, den*int64(h.many))
		}
	}
}

func (g *growth) tree() api.Tree {
	t, _ := trees.Canon(api.Tree{Nodes: g.nodes})
	return t
}

// grow is the whole growth of a tree.
func (t *table) grow(rests []int64, p api.Lesson) *growth {
	g := newGrowth(rests)
	for range p.Deep {
		open := g.open(p.Least)
		if !g.fork(open, t.bests(open)) {
			break
		}
		g.send(t.vectors)
		g.count()
	}
	g.settle(p.Num, p.Den)
	return g
}

// booster learns tree by tree.
type booster struct {
	table *table
	plan  api.Lesson
	base  int64
	rests []int64 // what base and the trees so far leave of each target
}

func newBooster(l [][]float64, targets []int64, p api.Lesson) *booster {
	sum, _ := fixed.Sum(targets)
	base, _ := fixed.Scale(sum, 1, int64(len(targets)))
	b := &booster{table: newTable(l), plan: p, base: base, rests: make([]int64, len(targets))}
	for row, v := range targets {
		b.rests[row] = v - base
	}
	return b
}

// next is the growth of a further tree; the rests are behind it then.
func (b *booster) next() *growth {
	g := b.table.grow(b.rests, b.plan)
	for row, i := range g.at {
		b.rests[row] -= g.nodes[i].Value
	}
	return g
}

func (b *booster) loss() []uint32 {
	var sum squares
	for _, rest := range b.rests {
		sum.add(apart(rest, 0))
	}
	return sum.natural()
}

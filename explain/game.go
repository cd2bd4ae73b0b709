package explain

import (
	"math/bits"

	"thicket/api"
)

// game is Shapley's: the players come one by one, in each of their orders, and each has what the score gains by its coming, on the average over the orders.
//
// A leaf is come to by just those mixed vectors whose set has some players, those with it, and has not some others, those without it. So it is gained by the coming of a player with it ahead of which all others with it came, and none of those without it; and it is lost by the coming of a player without it ahead of which all with it came, and no other one without it. All sets need not be gone through for that.
type game struct {
	place  []int  // by feature: which player it is
	orders uint64 // how many there are
	shares []wide // by player: what it gains, over all orders and all that was played
}

func newGame(players []int, features int) *game {
	g := &game{place: make([]int, features), orders: factorial(len(players)), shares: make([]wide, len(players))}
	for i, feature := range players {
		g.place[feature] = i
	}
	return g
}

// play shares out what parts a tree's leaf of x from that of b. Each leaf is come to once at most.
func (g *game) play(nodes []api.Node, x, b []float64) {
	var visit func(i int, with, without uint)
	visit = func(i int, with, without uint) {
		n := &nodes[i]
		if n.Kind == api.NodeLeaf {
			g.share(n.Value, with, without)
			return
		}
		own, other := behind(n, x), behind(n, b)
		if own == other {
			visit(own, with, without)
			return
		}
		player := uint(1) << g.place[n.Feature]
		if without&player == 0 {
			visit(own, with|player, without)
		}
		if with&player == 0 {
			visit(other, with, without|player)
		}
	}
	visit(0, 0, 0)
}

// share gives a leaf's value to the players with it and takes it from those without it.
func (g *game) share(v int64, with, without uint) {
	own, others := bits.OnesCount(with), bits.OnesCount(without)
	gain, loss := times(v, g.turns(own, others)), times(-v, g.turns(others, own))
	for i := range g.shares {
		switch {
		case with>>i&1 == 1:
			g.shares[i] = g.shares[i].plus(gain)
		case without>>i&1 == 1:
			g.shares[i] = g.shares[i].plus(loss)
		}
	}
}

// turns is in how many orders a player comes behind all of its own, so many with itself, and ahead of so many others. Where the rest come does not matter. (With none of its own there is no such player, and nobody has what is answered.)
func (g *game) turns(own, others int) uint64 {
	return g.orders / factorial(own+others) * factorial(own-1) * factorial(others)
}

func factorial(n int) uint64 {
	f := uint64(1)
	for i := range n {
		f *= uint64(i + 1)
	}
	return f
}

package learn

import (
	"math/bits"

	"thicket/api"
	"thicket/limbs"
	"thicket/trees"
)

// squares is a sum of squares in words, the lowest first: MaxRows squares of words never leave three.
type squares [3]uint64

// add adds the square of an amount.
func (s *squares) add(amount uint64) {
	high, low := bits.Mul64(amount, amount)
	carry := uint64(0)
	for i, word := range [3]uint64{low, high, 0} {
		s[i], carry = bits.Add64(s[i], word, carry)
	}
}

func (s *squares) natural() []uint32 {
	var l []uint32
	for _, word := range s {
		l = append(l, uint32(word), uint32(word>>32))
	}
	return limbs.Norm(l)
}

// apart is how far two numbers are apart, as an amount: a difference might leave an int64.
func apart(a, b int64) uint64 {
	if a < b {
		a, b = b, a
	}
	return uint64(a) - uint64(b)
}

// score is the first output's score of a vector at which trees.Score has no error; as there, it may wrap. That the trees are right is known then, so they are not looked over again for each vector.
func score(e api.Ensemble, x []float64) int64 {
	sum := e.Base[0]
	for i := range e.Trees {
		if t := &e.Trees[i]; t.Output == 0 {
			sum += valueOf(t.Nodes, x)
		}
	}
	return sum
}

// valueOf is the value of the leaf that a vector comes to.
func valueOf(nodes []api.Node, x []float64) int64 {
	i := 0
	for nodes[i].Kind != api.NodeLeaf {
		i = behind(&nodes[i], x)
	}
	return nodes[i].Value
}

// behind is the node below an inner one that a vector comes to.
func behind(n *api.Node, x []float64) int {
	if trees.Goes(*n, x[n.Feature]) == api.SideLeft {
		return n.Left
	}
	return n.Right
}

package lanes

import (
	"slices"

	"thicket/api"
)

// everyLane is the eight lanes as bits.
const everyLane uint8 = 1<<api.LaneWidth - 1

// group is the vectors that go side by side: eight, or what is left of them at the end.
type group [][]float64

// groupFrom is the group whose first vector has that number.
func groupFrom(l [][]float64, from int) group {
	return l[from:min(from+api.LaneWidth, len(l))]
}

// lane is a feature's numbers; the last vector stands in for those that a short group lacks.
func (g group) lane(feature int) api.Lane {
	var x api.Lane
	for i := range x {
		x[i] = g[min(i, len(g)-1)][feature]
	}
	return x
}

// gather are the lanes, as bits, of whose number something holds.
func gather(x api.Lane, holds func(float64) bool) uint8 {
	var out uint8
	for i, v := range x {
		if holds(v) {
			out |= 1 << i
		}
	}
	return out
}

// isMany tells whether a vector may have so many numbers.
func isMany(d int) bool { return d >= 0 && d <= api.MaxFeatures }

// firstWrong is the number of the first vector that has not d numbers; -1, if there is none.
func firstWrong(l [][]float64, d int) int {
	return slices.IndexFunc(l, func(x []float64) bool { return len(x) != d })
}

// areGroups tells whether lanes are those of n vectors of d numbers.
func areGroups(g [][]api.Lane, n, d int) bool {
	many := n / api.LaneWidth
	if n%api.LaneWidth > 0 {
		many++
	}
	return len(g) == many && !slices.ContainsFunc(g, func(lanes []api.Lane) bool { return len(lanes) != d })
}

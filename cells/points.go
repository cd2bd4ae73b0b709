package cells

import (
	"math"

	"thicket/api"
	"thicket/limbs"
	"thicket/order"
)

// marks are what a feature's nodes hold numbers against.
type marks struct {
	thresholds []float64
	cats       set
}

// marksOf are the marks of each feature that a node asks for.
func marksOf(l []api.Ensemble) map[int]*marks {
	all := map[int]*marks{}
	for _, e := range l {
		for _, t := range e.Trees {
			for i := range t.Nodes {
				if n := &t.Nodes[i]; n.Kind != api.NodeLeaf {
					note(all, n)
				}
			}
		}
	}
	return all
}

// note adds an inner node's marks to those of its feature.
func note(all map[int]*marks, n *api.Node) {
	m := all[n.Feature]
	if m == nil {
		m = &marks{}
		all[n.Feature] = m
	}
	if n.Kind == api.NodeNumber {
		m.thresholds = append(m.thresholds, n.Threshold)
	} else {
		m.cats = m.cats.either(setOf(n.Cats))
	}
}

// points are the numbers that stand for all others of a feature: from one to the next, no node tells two numbers apart.
func (m *marks) points() []float64 {
	if m == nil {
		return []float64{0}
	}
	l := []float64{math.Inf(-1)}
	for _, v := range m.list() {
		l = append(l, v)
		if above, why := order.Next(v); why == api.OK {
			l = append(l, above)
		}
	}
	return append(order.Distinct(l), math.NaN())
}

// list is the marks as numbers. Of thresholds many are alike, so these are put together first.
func (m *marks) list() []float64 {
	l := order.Distinct(m.thresholds)
	for c, ok := m.cats.from(0); ok; c, ok = m.cats.from(c + 1) {
		l = append(l, float64(c))
	}
	return l
}

// pointsOf are each feature's points, to ensembles of as many features.
func pointsOf(l []api.Ensemble) [][]float64 {
	all := marksOf(l)
	points := make([][]float64, len(l[0].Features))
	for feature := range points {
		points[feature] = all[feature].points()
	}
	return points
}

// within are the points in a span. The least number of it is one of them, as it stands for what lies below the feature's first point there.
func within(points []float64, s api.Span) []float64 {
	var l []float64
	if hasNumbers(s) {
		l = append(l, s.Low)
		for _, v := range points {
			if v > s.Low && v <= s.High {
				l = append(l, v)
			}
		}
	}
	if s.Lost {
		l = append(l, math.NaN())
	}
	return l
}

func hasNumbers(s api.Span) bool { return s.Low <= s.High }

// isEmpty tells whether a box has no vector.
func isEmpty(box []api.Span) bool {
	for _, s := range box {
		if !hasNumbers(s) && !s.Lost {
			return true
		}
	}
	return false
}

// product is how many vectors there are of such points. It goes by halves, as a great factor times a small one again and again would take long.
func product(points [][]float64) []uint32 {
	if len(points) == 1 {
		return limbs.From(uint64(len(points[0])))
	}
	half := len(points) / 2
	return limbs.Mul(product(points[:half]), product(points[half:]))
}

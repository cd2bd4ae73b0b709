package rank

import (
	"thicket/api"
	"thicket/limbs"
)

// apart is how far two numbers are apart, as an amount: a difference might leave an int64.
func apart(a, b int64) uint64 {
	if a < b {
		a, b = b, a
	}
	return uint64(a) - uint64(b)
}

// over is a right ratio; den must be above nought.
func over[N int | int64](num, den N) api.Ratio {
	r, _ := limbs.Over(num < 0, limbs.From(apart(int64(num), 0)), limbs.From(uint64(den)))
	return r
}

// byPlaces is the sum of numbers, each by its place, from 1 on.
func byPlaces(l []int64) api.Ratio {
	var parts []api.Ratio
	for at, v := range l {
		if v != 0 {
			parts = append(parts, over(v, int64(at+1)))
		}
	}
	return total(parts)
}

// total is a sum, made by halves: so few of its parts have great denominators.
func total(l []api.Ratio) api.Ratio {
	switch len(l) {
	case 0:
		return limbs.Whole(0)
	case 1:
		return l[0]
	}
	sum, _ := limbs.Plus(total(l[:len(l)/2]), total(l[len(l)/2:]))
	return sum
}

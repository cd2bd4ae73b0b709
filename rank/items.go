package rank

import (
	"cmp"
	"iter"
	"slices"
)

// numbers are those from 0 on, so many.
func numbers(many int) []int {
	l := make([]int, many)
	for i := range l {
		l[i] = i
	}
	return l
}

// alike yields the pieces of an order, one behind the other, whose items have one score.
func alike(order []int, scores []int64) iter.Seq[[]int] {
	return func(yield func([]int) bool) {
		for from, to := 0, 0; from < len(order); from = to {
			for to < len(order) && scores[order[to]] == scores[order[from]] {
				to++
			}
			if !yield(order[from:to]) {
				return
			}
		}
	}
}

// hitsOf is how many of some items are hit.
func hitsOf(items []int, hit []bool) int {
	many := 0
	for _, item := range items {
		if hit[item] {
			many++
		}
	}
	return many
}

// pairsAlike is how many pairs of items two lists put alike; pairsUnlike, how many they put unlike. With items by falling or by rising numbers of a, these are the pairs whose numbers of b fall. Pairs that a puts neither way are not among them, as of alike numbers of a those of b rise.
func pairsAlike(a, b []int64) int { return pairsFalling(a, b, -1) }

func pairsUnlike(a, b []int64) int { return pairsFalling(a, b, 1) }

func pairsFalling(a, b []int64, direction int) int {
	l := numbers(len(a))
	slices.SortFunc(l, func(i, j int) int {
		return cmp.Or(direction*cmp.Compare(a[i], a[j]), cmp.Compare(b[i], b[j]))
	})
	there := make([]int64, len(l))
	for at, item := range l {
		there[at] = b[item]
	}
	return sortFalling(there, make([]int64, len(l)))
}

// sortFalling sorts a list so that it rises, and is how many pairs in it fell: where halves are merged, a number of the right one falls behind each that is still left of the left one. The room is as long as the list.
func sortFalling(l, room []int64) int {
	if len(l) < 2 {
		return 0
	}
	half := len(l) / 2
	fell := sortFalling(l[:half], room) + sortFalling(l[half:], room)
	left, right := room[:half], l[half:]
	copy(left, l)
	for at := 0; len(left) > 0; at++ {
		if len(right) > 0 && right[0] < left[0] {
			l[at], right = right[0], right[1:]
			fell += len(left)
		} else {
			l[at], left = left[0], left[1:]
		}
	}
	return fell
}

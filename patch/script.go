package patch

import (
	"iter"
	"math"
	"math/bits"
	"slices"

	"thicket/api"
	"thicket/trees"
)

// step is what a script does at one place: it keeps or drops tree old of the one list, or adds tree anew of the other one ahead of it.
type step struct {
	kind      api.EditKind
	old, anew int
}

// script yields the steps from trees a to trees b.
func script(a, b []api.Tree) iter.Seq[step] {
	return func(yield func(step) bool) {
		l := numbered(a, b)
		old, anew := l[0], l[1]
		kept := mostKept(old, anew)
		for s := (step{}); s.old < len(old) || s.anew < len(anew); {
			switch {
			case s.old < len(old) && s.anew < len(anew) && old[s.old] == anew[s.anew]:
				s.kind = api.EditKeep
			case s.old < len(old) && kept[s.old+1][s.anew] == kept[s.old][s.anew]:
				s.kind = api.EditDrop
			default:
				s.kind = api.EditAdd
			}
			if !yield(s) {
				return
			}
			if s.kind != api.EditAdd {
				s.old++
			}
			if s.kind != api.EditDrop {
				s.anew++
			}
		}
	}
}

// mostKept is how many trees can be kept from a place in each of two lists on. No list has more than MaxDiff, which a uint16 says.
func mostKept(old, anew []int) [][]uint16 {
	kept := make([][]uint16, len(old)+1)
	kept[len(old)] = make([]uint16, len(anew)+1)
	for i := len(old) - 1; i >= 0; i-- {
		row, below := make([]uint16, len(anew)+1), kept[i+1]
		for j := len(anew) - 1; j >= 0; j-- {
			if old[i] == anew[j] {
				row[j] = below[j+1] + 1
			} else {
				row[j] = max(below[j], row[j+1])
			}
		}
		kept[i] = row
	}
	return kept
}

// edits is a script with neighbours of one kind as one edit. Its trees share memory with those that are handed in.
func edits(a, b []api.Tree) []api.Edit {
	var l []api.Edit
	for s := range script(a, b) {
		if len(l) == 0 || l[len(l)-1].Kind != s.kind {
			l = append(l, api.Edit{Kind: s.kind})
		}
		e := &l[len(l)-1]
		switch s.kind {
		case api.EditKeep:
			e.Many++
		case api.EditDrop:
			e.Trees = append(e.Trees, a[s.old])
		case api.EditAdd:
			e.Trees = append(e.Trees, b[s.anew])
		}
	}
	return l
}

// numbered gives trees numbers, so that two have the same number just if they are one: whoever holds each tree of a list against each of another one holds numbers against each other. Whether trees are one is asked only where their marks are the same.
func numbered(lists ...[]api.Tree) [][]int {
	numbers := make([][]int, len(lists))
	var met []api.Tree
	byMark := map[uint64][]int{}
	for i, l := range lists {
		for _, t := range l {
			m := markOf(t)
			at := slices.IndexFunc(byMark[m], func(number int) bool { return trees.Alike(met[number], t) })
			if at < 0 {
				at = len(byMark[m])
				byMark[m] = append(byMark[m], len(met))
				met = append(met, t)
			}
			numbers[i] = append(numbers[i], byMark[m][at])
		}
	}
	return numbers
}

// markOf is a number that trees have in common which are one, and that others hardly ever have in common.
func markOf(t api.Tree) uint64 {
	m := mixed(0, uint64(t.Output))
	for i := range t.Nodes {
		n := &t.Nodes[i]
		for _, word := range [...]uint64{
			uint64(n.Kind), uint64(n.Value), uint64(n.Feature), math.Float64bits(n.Threshold), uint64(n.Missing), uint64(n.Left), uint64(n.Right),
		} {
			m = mixed(m, word)
		}
		for _, c := range n.Cats {
			m = mixed(m, uint64(c))
		}
	}
	return m
}

// mixed brings each bit of a word to other places, so that words which differ in few bits don't make up for one another.
func mixed(m, word uint64) uint64 {
	const odd = 0x9e3779b97f4a7c15
	return bits.RotateLeft64((m^word)*odd, 29)
}

package code

import "thicket/api"

// tidied are a right program's operations without what does nothing.
func tidied(l []api.Op) []api.Op {
	land := landings(l)
	kept := reals(l, land)
	places := newPlaces(l, land, kept)
	var ops []api.Op
	for k, i := range kept {
		o := l[i]
		o.Cats = append([]int(nil), o.Cats...)
		if isTest(&o) {
			o.To = places[land[o.To]]
		}
		ops = append(ops, o)
		if leaps(l, land, kept, k) {
			ops = append(ops, jump(places[land[i+1]]))
		}
	}
	return ops
}

// landings are where each operation lands; all ways lead ahead, so those behind are known first.
func landings(l []api.Op) []int {
	land := make([]int, len(l))
	for i := len(l) - 1; i >= 0; i-- {
		switch o := &l[i]; {
		case o.Kind == api.OpJump:
			land[i] = land[o.To]
		case o.Kind == api.OpAdd && o.Value == 0:
			land[i] = land[i+1]
		default:
			land[i] = i
		}
	}
	return land
}

// reals are the numbers of the real ones, rising.
func reals(l []api.Op, land []int) []int {
	met := make([]bool, len(l))
	met[land[0]] = true
	var kept []int
	for i := range l {
		if !met[i] {
			continue
		}
		kept = append(kept, i)
		if l[i].Kind != api.OpEnd {
			met[land[i+1]] = true
		}
		if isTest(&l[i]) {
			met[land[l[i].To]] = true
		}
	}
	return kept
}

// leaps tells whether the k-th real one needs a jump behind it, as what it goes on with does not stand next then. (Behind an OpEnd nothing is gone on with, and the last real one is one.)
func leaps(l []api.Op, land, kept []int, k int) bool {
	i := kept[k]
	return l[i].Kind != api.OpEnd && land[i+1] != kept[k+1]
}

// newPlaces are where the real ones stand among them and the jumps that they need.
func newPlaces(l []api.Op, land, kept []int) []int {
	places := make([]int, len(l))
	at := 0
	for k, i := range kept {
		places[i] = at
		at++
		if leaps(l, land, kept, k) {
			at++
		}
	}
	return places
}

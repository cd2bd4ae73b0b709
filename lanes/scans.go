package lanes

import (
	"cmp"
	"math"
	"slices"

	"thicket/api"
	"thicket/bits"
	"thicket/lists"
)

// width is how many bits a word has.
const width = 64

// word is a word of a tree's mask, in each of the eight lanes.
type word [api.LaneWidth]uint64

// part is a block, and its trees' masks with all leaves in, one behind another.
type part struct {
	block api.Block
	full  []uint64
	ends  []int // where each tree's words end
}

func partOf(b api.Block) part {
	p := part{block: b}
	for _, leaves := range b.Leaves {
		mask, _ := bits.Full(leaves) // there are always more bits than a tree has leaves
		p.full = append(p.full, mask...)
		p.ends = append(p.ends, len(p.full))
	}
	return p
}

// refuses is the error of vectors that the scorer can't score, and the number of the first one at fault.
func (s *Scorer) refuses(l [][]float64) (api.Errno, int) {
	if s == nil {
		return api.ErrNil, 0
	}
	if at := firstWrong(l, s.features); at >= 0 {
		return api.ErrVector, at
	}
	return api.OK, 0
}

// exits tells of each vector, block by block, the lowest leaf that is left of each tree.
func (s *Scorer) exits(l [][]float64, tell func(i int, b *api.Block, tree, leaf int)) {
	var masks []word // scratch, written anew for each block
	for from := 0; from < len(l); from += api.LaneWidth {
		g := groupFrom(l, from)
		for k := range s.parts {
			p := &s.parts[k]
			masks = p.fill(masks[:0])
			p.scan(masks, g)
			for tree := range p.ends {
				mask := p.mask(masks, tree)
				for lane := range g {
					tell(from+lane, &p.block, tree, lowest(mask, lane))
				}
			}
		}
	}
}

// fill appends the block's masks with all leaves in, in every lane.
func (p *part) fill(masks []word) []word {
	for _, leaves := range p.full {
		var w word
		for lane := range w {
			w[lane] = leaves
		}
		masks = append(masks, w)
	}
	return masks
}

// scan takes the leaves of all cuts that are false of a group's vectors out of the block's masks, in the lanes of which they are.
func (p *part) scan(masks []word, g group) {
	for i := range p.block.Lists {
		l := &p.block.Lists[i]
		x := g.lane(l.Feature)
		lost := Lost(x)
		if lost != 0 {
			for k := range l.Lost {
				p.take(masks, &l.Lost[k], lost)
			}
		}
		if lost == everyLane {
			continue
		}
		for k := range l.Cats {
			c := &l.Cats[k]
			p.take(masks, c, outside(x, c.Cats))
		}
		for k := range l.Numbers {
			c := &l.Numbers[k]
			above := Above(x, c.Threshold)
			if above == 0 {
				break // the thresholds behind it are no lower
			}
			p.take(masks, c, above)
		}
	}
}

// mask is the words of one tree, with no room for those of the next one.
func (p *part) mask(masks []word, tree int) []word {
	from, to := 0, p.ends[tree]
	if tree > 0 {
		from = p.ends[tree-1]
	}
	return masks[from:to:to]
}

// take takes a cut's leaves out of its tree's mask in some lanes, word by word.
func (p *part) take(masks []word, c *api.Cut, lanes uint8) {
	mask := p.mask(masks, c.Tree)
	for from := c.From; from < c.To; {
		to := min(c.To, (from/width+1)*width)
		w := &mask[from/width]
		leaves := uint64(1<<(to-from)-1) << (from % width)
		for i := range w {
			w[i] &^= leaves & -uint64(lanes>>i&1)
		}
		from = to
	}
}

// lowest is the first leaf that is left of a tree in a lane. The last leaf is in no cut, so there always is one.
func lowest(mask []word, lane int) int {
	at := 0
	for mask[at][lane] == 0 {
		at++
	}
	return at*width + bits.Lowest(mask[at][lane:lane+1])
}

// outside is as Outside, of categories that rise: so they are found by halving.
func outside(x api.Lane, cats []int) uint8 {
	return gather(x, func(v float64) bool { return !math.IsNaN(v) && !isAmong(cats, v) })
}

func isAmong(cats []int, v float64) bool {
	_, ok := slices.BinarySearchFunc(cats, v, func(c int, v float64) int { return cmp.Compare(float64(c), v) })
	return ok
}

// workOf is how many cuts are looked at for a lane. The thresholds of a right form rise: of all its numbers the greatest one comes farthest.
func workOf(l api.List, x api.Lane) int {
	work := 0
	lost := Lost(x)
	if lost != 0 {
		work += lists.Work(l, math.NaN())
	}
	if lost != everyLane {
		work += lists.Work(l, greatest(x))
	}
	return work
}

// greatest is the greatest of numbers that are not all NaN.
func greatest(x api.Lane) float64 {
	v := math.Inf(-1)
	for _, one := range x {
		if one > v {
			v = one
		}
	}
	return v
}

package quick

import (
	"cmp"
	"math"
	"slices"

	"thicket/api"
	"thicket/bits"
)

// width is how many bits a word has.
const width = 64

// part is a block, and its trees' masks with all leaves in, one behind another.
type part struct {
	block api.Block
	full  []uint64
	ends  []int // where each tree's words end
}

func partOf(b api.Block) part {
	p := part{block: b}
	for _, leaves := range b.Leaves {
		mask, _ := bits.Full(leaves) // there are always more bits than a tree has leaves
		p.full = append(p.full, mask...)
		p.ends = append(p.ends, len(p.full))
	}
	return p
}

// refuses is the error of a vector that the scorer can't score.
func (s *Scorer) refuses(x []float64) api.Errno {
	switch {
	case s == nil:
		return api.ErrNil
	case len(x) != s.features:
		return api.ErrVector
	}
	return api.OK
}

// score is what is said of a vector that is not refused. Sums may wrap: a form need not be of a right ensemble.
func (s *Scorer) score(x []float64) []int64 {
	sums := append([]int64(nil), s.base...)
	s.exits(x, func(b *api.Block, tree, leaf int) { sums[b.Outputs[tree]] += b.Values[tree][leaf] })
	return sums
}

// exits tells, block by block, the lowest leaf that is left of each tree. The last leaf is in no cut, so there always is one.
func (s *Scorer) exits(x []float64, tell func(b *api.Block, tree, leaf int)) {
	for i := range s.parts {
		p := &s.parts[i]
		masks := s.scratch[:len(p.full):len(p.full)]
		copy(masks, p.full)
		p.scan(masks, x)
		for tree := range p.ends {
			tell(&p.block, tree, bits.Lowest(p.mask(masks, tree)))
		}
	}
}

// scan takes the leaves of all cuts that are false of a vector out of the block's masks. In which order does not matter, so the categories go first: where the numbers' scan ends, the list is done.
func (p *part) scan(masks []uint64, x []float64) {
lists:
	for i := range p.block.Lists {
		l := &p.block.Lists[i]
		v := x[l.Feature]
		if math.IsNaN(v) {
			for k := range l.Lost {
				p.take(masks, &l.Lost[k])
			}
			continue
		}
		for k := range l.Cats {
			if c := &l.Cats[k]; !isAmong(c.Cats, v) {
				p.take(masks, c)
			}
		}
		for k := range l.Numbers {
			c := &l.Numbers[k]
			if v <= c.Threshold {
				continue lists // the thresholds behind it are no lower
			}
			p.take(masks, c)
		}
	}
}

// mask is the words of one tree, with no room for those of the next one.
func (p *part) mask(masks []uint64, tree int) []uint64 {
	from, to := 0, p.ends[tree]
	if tree > 0 {
		from = p.ends[tree-1]
	}
	return masks[from:to:to]
}

// take takes a cut's leaves out of its tree's mask, word by word.
func (p *part) take(masks []uint64, c *api.Cut) {
	mask := p.mask(masks, c.Tree)
	for from := c.From; from < c.To; {
		to := min(c.To, (from/width+1)*width)
		mask[from/width] &^= (1<<(to-from) - 1) << (from % width)
		from = to
	}
}

// isAmong tells whether a number is one of some categories, which rise.
func isAmong(cats []int, v float64) bool {
	_, ok := slices.BinarySearchFunc(cats, v, func(c int, v float64) int { return cmp.Compare(float64(c), v) })
	return ok
}
